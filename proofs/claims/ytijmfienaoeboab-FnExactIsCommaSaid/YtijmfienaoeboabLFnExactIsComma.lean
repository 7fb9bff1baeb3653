/- For all block codes and texts, the law FnExactIsComma returns true and leaves its arguments as they were; no condition beside the program's own variable MaxLen, which holds some number. -/
import Derived.Test.YtijmfienaoeboabRows
import Derived.Test.YtijmfienaoeboabKFnExactIsComma
import Derived.Test.YtijmfienaoeboabJFnExactIsComma
namespace Go.Proofs.Ytijmfienaoeboab.fnExactIsComma
open Go.ChangeShapes Go.WideShapes Go.ChangeAt Go.RowKit
open Go.ChangeMaps (open_string shut_string)
set_option linter.unusedVariables false

theorem proved : Rows.FnExactIsCommaSaid := over_of lifted
#print axioms proved
end Go.Proofs.Ytijmfienaoeboab.fnExactIsComma
