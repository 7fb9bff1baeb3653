/- WrongBehind of the program returns at all arguments what its model returns. -/
import Derived.Test.YtmhdjimdhcephaaRows
import Derived.Test.YtmhdjimdhcephaaKFnExactWrongBehind
import Derived.Test.YtmhdjimdhcephaaJFnExactWrongBehind
namespace Go.Proofs.Ytmhdjimdhcephaa.fnExactWrongBehind
open Go.ChangeShapes Go.WideShapes Go.ChangeAt Go.RowKit
open Go.ChangeMaps (open_string shut_string)
set_option linter.unusedVariables false

theorem proved : Rows.FnExactWrongBehindSaid := over_of lifted
#print axioms proved
end Go.Proofs.Ytmhdjimdhcephaa.fnExactWrongBehind
