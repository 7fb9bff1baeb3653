/- The model's SelfDescramble. -/
import Derived.Test.YtddlpbpcdjddpaaSbd
namespace Go.Proofs.Ytddlpbpcdjddpaa
open Go Go.RowKit
set_option linter.unusedVariables false
end Go.Proofs.Ytddlpbpcdjddpaa
