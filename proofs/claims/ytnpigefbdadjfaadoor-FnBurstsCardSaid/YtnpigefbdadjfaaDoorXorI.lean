/- The program's XorBits, and the walk of its law. -/
import Derived.Test.YtnpigefbdadjfaaDoorXor
namespace Go.Proofs.YtnpigefbdadjfaaDoor
open Go Go.RowKit
set_option linter.unusedVariables false

end Go.Proofs.YtnpigefbdadjfaaDoor
