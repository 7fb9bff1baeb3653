/- Contracts: bounds, lists of numbers within bounds, needs: the program's and the model's. -/
import Derived.Test.YtmhdjimdhcephaaNdP
import Derived.Test.YtmhdjimdhcephaaMm
namespace Go.Proofs.Ytmhdjimdhcephaa
open Go Go.RowKit
set_option linter.unusedVariables false

theorem rg_in (n lo hi : Int) (w : World) : Calls Try.prog 71 #[.int .i64 n, .int .i64 lo, .int .i64 hi] w fun e w' => e = .returned (.bool (rgB lo hi n)) ∧ w = w' := by
  by_cases h : lo ≤ n ∧ n ≤ hi
  · have e : rgB lo hi n = true := decide_eq_true h
    rw [e]; exact l00In_yes n lo hi w h.1 h.2
  · have e : rgB lo hi n = false := decide_eq_false h
    rw [e]; exact l00In_no n lo hi w h
theorem rg_is (n lo hi : Int) (w : World) : Calls Try.prog 72 #[.int .i64 n, .int .i64 lo, .int .i64 hi] w fun e w' => e = .returned (.bool (rgB lo hi n)) ∧ w = w' := by
  by_cases h : lo ≤ n ∧ n ≤ hi
  · have e : rgB lo hi n = true := decide_eq_true h
    rw [e]; exact btw_yes n lo hi w h.1 h.2
  · have e : rgB lo hi n = false := decide_eq_false h
    rw [e]; exact btw_no n lo hi w h
theorem rd_max {l : List Int} (h0 : 0 < l.length) : ∃ M, IsMax l M := by
  have key : ∀ k : Nat, 1 ≤ k → k ≤ l.length → ∃ M, IsMax (l.take k) M := by
    intro k h1
    induction k with
    | zero => omega
    | succ k ih =>
      intro hk
      by_cases hz : k = 0
      · subst hz
        exact ⟨_, isMax_one l (by omega)⟩
      · obtain ⟨M, hM⟩ := ih (by omega) (by omega)
        have := isMax_snoc (x := l[k]'(by omega)) hM
        rw [← List.take_succ_eq_append_getElem (by omega)] at this
        exact ⟨_, this⟩
  obtain ⟨M, hM⟩ := key l.length h0 (Nat.le_refl _)
  rw [List.take_length] at hM
  exact ⟨M, hM⟩
end Go.Proofs.Ytmhdjimdhcephaa
