/- For all block codes and numbers, the law FnExactCommasOf returns true and leaves its arguments as they were; no condition beside the program's own variable MaxLen, which holds some number. -/
import Derived.Test.YtijmfienaoeboabRows
import Derived.Test.YtijmfienaoeboabKFnExactCommasOf
import Derived.Test.YtijmfienaoeboabJFnExactCommasOf
namespace Go.Proofs.Ytijmfienaoeboab.fnExactCommasOf
open Go.ChangeShapes Go.WideShapes Go.ChangeAt Go.RowKit
open Go.ChangeMaps (open_string shut_string)
set_option linter.unusedVariables false

theorem proved : Rows.FnExactCommasOfSaid := over_of lifted
#print axioms proved
end Go.Proofs.Ytijmfienaoeboab.fnExactCommasOf
