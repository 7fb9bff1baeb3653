/- The laws' own r8Has, r8Nums and r8Long. -/
import Derived.Test.YtddlpbpcdjddpaaEsa
import Derived.Test.YtddlpbpcdjddpaaSam
import Derived.Test.YtddlpbpcdjddpaaSrc
namespace Go.Proofs.Ytddlpbpcdjddpaa
open Go Go.RowKit
set_option linter.unusedVariables false

theorem r8Long_any (w : World) (A1 A2 : Option Addr) (n1 c1 n2 c2 : Nat) :
    Calls Try.prog 25 #[.slice A1 n1 c1, .slice A2 n2 c2] w fun e w' => e = .returned (.bool (decide (48 < n1) || decide (48 < n2))) ∧ ∃ q, w' = w.drewN q := by
  by_cases h1 : 48 < n1
  · rw [decide_eq_true h1, Bool.true_or]
    have h1' : (48 : Int) < (n1 : Int) := by omega
    go_enter Try.func25, Try.ntmps25
    go_wp2_with fail
    go_ret
    exact ⟨rfl, 0, rfl⟩
  · rw [decide_eq_false h1, Bool.false_or]
    have h1' : ¬ (48 : Int) < (n1 : Int) := by omega
    by_cases h2 : 48 < n2
    · rw [decide_eq_true h2]
      have h2' : (48 : Int) < (n2 : Int) := by omega
      go_enter Try.func25, Try.ntmps25
      go_wp2_with fail
      go_ret
      exact ⟨rfl, 0, rfl⟩
    · rw [decide_eq_false h2]
      have h2' : ¬ (48 : Int) < (n2 : Int) := by omega
      go_enter Try.func25, Try.ntmps25
      go_wp2_with fail
      go_ret
      exact ⟨rfl, 0, rfl⟩
end Go.Proofs.Ytddlpbpcdjddpaa
