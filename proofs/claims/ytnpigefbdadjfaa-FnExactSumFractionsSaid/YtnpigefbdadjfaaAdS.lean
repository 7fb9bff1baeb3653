/- The model's AddFractions. -/
import Derived.Test.YtnpigefbdadjfaaWdB
import Derived.Test.YtnpigefbdadjfaaAdJ
namespace Go.Proofs.Ytnpigefbdadjfaa
open Go Go.RowKit
set_option linter.unusedVariables false

end Go.Proofs.Ytnpigefbdadjfaa
