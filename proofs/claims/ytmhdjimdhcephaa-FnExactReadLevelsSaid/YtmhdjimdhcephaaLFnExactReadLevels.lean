/- ReadLevels of the program returns at every number and every list what its model returns, and changes no argument. -/
import Derived.Test.YtmhdjimdhcephaaRows
import Derived.Test.YtmhdjimdhcephaaKFnExactReadLevels
import Derived.Test.YtmhdjimdhcephaaJFnExactReadLevels
namespace Go.Proofs.Ytmhdjimdhcephaa.fnExactReadLevels
open Go.ChangeShapes Go.WideShapes Go.ChangeAt Go.RowKit
open Go.ChangeMaps (open_string shut_string)
set_option linter.unusedVariables false

theorem proved : Rows.FnExactReadLevelsSaid := over_of lifted
#print axioms proved
end Go.Proofs.Ytmhdjimdhcephaa.fnExactReadLevels
