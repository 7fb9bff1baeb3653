/- Contracts of the program's isBetween over ints. -/
import Derived.Test.YtjhgkkecconcaaaProg
import Derived.WalkKit
namespace Go.Proofs.Ytjhgkkecconcaaa
open Go Go.RowKit
set_option linter.unusedVariables false

end Go.Proofs.Ytjhgkkecconcaaa
