/- Whether two lists of numbers are the same, both sides. -/
import Derived.Test.YtddlpbpcdjddpaaRd
import Derived.Test.YtddlpbpcdjddpaaPl
import Derived.Deep.QuietTactic
import Derived.BigQuiet
namespace Go.Proofs.Ytddlpbpcdjddpaa
open Go Go.RowKit
set_option linter.unusedVariables false

theorem same_ne {a b : List Int} {k : Nat} (h1 : k < a.length) (h2 : k < b.length) (h : a[k] ≠ b[k]) : ¬ a = b := by intro e; subst e; exact h rfl
theorem same_eq {a b : List Int} (hl : a.length = b.length) (h : ∀ k (h1 : k < a.length) (h2 : k < b.length), a[k] = b[k]) : a = b := List.ext_getElem hl (fun i h1 h2 => h i h1 h2)

end Go.Proofs.Ytddlpbpcdjddpaa
