/- The model's ValidFraction. -/
import Derived.Test.YtnpigefbdadjfaaDoorFrc
namespace Go.Proofs.YtnpigefbdadjfaaDoor
open Go Go.RowKit
set_option linter.unusedVariables false
end Go.Proofs.YtnpigefbdadjfaaDoor
