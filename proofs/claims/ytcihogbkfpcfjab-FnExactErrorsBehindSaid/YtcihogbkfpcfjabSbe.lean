/- The model's SelfDescramble. -/
import Derived.Test.YtcihogbkfpcfjabSbd
namespace Go.Proofs.Ytcihogbkfpcfjab
open Go Go.RowKit
set_option linter.unusedVariables false
end Go.Proofs.Ytcihogbkfpcfjab
