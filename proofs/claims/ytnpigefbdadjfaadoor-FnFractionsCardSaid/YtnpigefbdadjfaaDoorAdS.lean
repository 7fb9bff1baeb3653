/- The model's AddFractions. -/
import Derived.Test.YtnpigefbdadjfaaDoorWdB
import Derived.Test.YtnpigefbdadjfaaDoorAdJ
namespace Go.Proofs.YtnpigefbdadjfaaDoor
open Go Go.RowKit
set_option linter.unusedVariables false

end Go.Proofs.YtnpigefbdadjfaaDoor
