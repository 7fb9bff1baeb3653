/- Contracts of the program's isBetween over ints. -/
import Derived.Test.YtmhdjimdhcephaaProg
import Derived.WalkKit
namespace Go.Proofs.Ytmhdjimdhcephaa
open Go Go.RowKit
set_option linter.unusedVariables false

end Go.Proofs.Ytmhdjimdhcephaa
