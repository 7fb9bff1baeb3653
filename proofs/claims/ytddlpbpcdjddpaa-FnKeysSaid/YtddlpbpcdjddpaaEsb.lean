/- Special bytes, both sides. -/
import Derived.Test.YtddlpbpcdjddpaaEsa
namespace Go.Proofs.Ytddlpbpcdjddpaa
open Go Go.RowKit
set_option linter.unusedVariables false

theorem spOk_no {l : List Int} (h : (decide (l.length ≤ 8) && (inc l && byR l)) = false) : spOk l = false := by unfold spOk; rw [h]; rfl
theorem spOk_no125 {l : List Int} (h : l.contains 125 = false) : spOk l = false := by unfold spOk; rw [h]; simp
theorem spOk_x {l : List Int} (h1 : (decide (l.length ≤ 8) && (inc l && byR l)) = true) (h2 : l.contains 125 = true) : spOk l = noX l := by unfold spOk; rw [h1, h2]; rfl
theorem spOk_parts {l : List Int} (h : spOk l = true) : l.length ≤ 8 ∧ byR l = true ∧ l.contains 125 = true ∧ noX l = true := by
  unfold spOk at h
  obtain ⟨h1, h2⟩ := Bool.and_eq_true_iff.1 h
  obtain ⟨h3, h4⟩ := Bool.and_eq_true_iff.1 h1
  obtain ⟨h5, h6⟩ := Bool.and_eq_true_iff.1 h4
  obtain ⟨h7, h8⟩ := Bool.and_eq_true_iff.1 h2
  exact ⟨of_decide_eq_true h3, h6, h7, h8⟩

end Go.Proofs.Ytddlpbpcdjddpaa
