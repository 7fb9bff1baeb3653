/- The laws' own r8Has, r8Nums and r8Long. -/
import Derived.Test.YtjhgkkecconcaabEsa
import Derived.Test.YtjhgkkecconcaabSam
import Derived.Test.YtjhgkkecconcaabSrc
namespace Go.Proofs.Ytjhgkkecconcaab
open Go Go.RowKit
set_option linter.unusedVariables false

end Go.Proofs.Ytjhgkkecconcaab
