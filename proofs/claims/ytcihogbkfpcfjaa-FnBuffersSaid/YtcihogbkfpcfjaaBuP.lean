/- Plain facts on buffers: what FnBuffers asks. -/
import Derived.Test.YtcihogbkfpcfjaaClP
namespace Go.Proofs.Ytcihogbkfpcfjaa
set_option linter.unusedVariables false
open Go Go.RowKit

theorem div_keep {t u p : Int} (hp : 0 < p) (h1 : t ≤ u) (h2 : u < mb t p) : u / p = t / p := by
  have a := Int.ediv_le_ediv hp h1
  have b : u / p < t / p + 1 := Int.ediv_lt_of_lt_mul hp (by unfold mb at h2; exact h2)
  omega
theorem fil_keep {w r f t u : Int} (hw : 0 < w) (hr : 0 < r) (h1 : t ≤ u) (h2 : u < nxT w r t) : fil w r f u = fil w r f t := by
  unfold nxT at h2
  unfold fil
  rw [div_keep hw h1 (by omega), div_keep hr h1 (by omega)]
/-- The fill is within its limits. -/
def inF (w r d f u : Int) : Prop := 0 ≤ fil w r f u ∧ fil w r f u ≤ d
theorem bt_none {w r d f : Int} (hw : 0 < w) (hr : 0 < r) : ∀ (n : Nat) (t : Int), 1000001 - t ≤ n → inF w r d f t → bft w r d f n t = none → ∀ u, t ≤ u → u ≤ 1000000 → inF w r d f u
  | 0, t, hn, ht, h, u, h1, h2 => by omega
  | n + 1, t, hn, ht, h, u, h1, h2 => by
    have hg := nxT_gt (t := t) hw hr
    by_cases hu : u < nxT w r t
    · unfold inF; rw [fil_keep hw hr h1 hu]; exact ht
    · unfold bft at h
      rw [if_neg (by omega)] at h
      split at h
      · rename_i hin
        exact bt_none hw hr n _ (by omega) hin h u (by omega) h2
      · cases h
theorem bt_some {w r d f x : Int} (hw : 0 < w) (hr : 0 < r) : ∀ (n : Nat) (t : Int), inF w r d f t → bft w r d f n t = some x → (¬ inF w r d f x) ∧ t < x ∧ x ≤ 1000000 ∧ ∀ u, t ≤ u → u < x → inF w r d f u
  | 0, t, ht, h => by cases h
  | n + 1, t, ht, h => by
    have hg := nxT_gt (t := t) hw hr
    unfold bft at h
    split at h
    · cases h
    · split at h
      · rename_i hin
        obtain ⟨a, b, c, e⟩ := bt_some hw hr n _ hin h
        refine ⟨a, by omega, c, fun u h1 h2 => ?_⟩
        by_cases hu : u < nxT w r t
        · unfold inF; rw [fil_keep hw hr h1 hu]; exact ht
        · exact e u (by omega) h2
      · rename_i hout
        injection h with h
        subst h
        refine ⟨hout, hg, by omega, fun u h1 h2 => ?_⟩
        unfold inF; rw [fil_keep hw hr h1 h2]; exact ht
theorem fil_zero (w r f : Int) : fil w r f 0 = f := by simp [fil]
theorem btT_some {w r d f x : Int} (hw : 0 < w) (hr : 0 < r) (h0 : 0 ≤ f) (hd : f ≤ d) (h : btT w r d f 0 = some x) : (¬ inF w r d f x) ∧ 0 < x ∧ x ≤ 1000000 ∧ ∀ u, 0 ≤ u → u < x → inF w r d f u :=
  bt_some hw hr _ 0 (by unfold inF; rw [fil_zero]; exact ⟨h0, hd⟩) h
theorem btT_is {w r d f : Int} (hw : 2 ≤ w) (hw2 : w ≤ 21) (hr : 2 ≤ r) (hr2 : r ≤ 21) (hd : d ≤ 6) (h0 : 0 ≤ f) (hf : f ≤ d) (hne : w ≠ r) : ∃ x, btT w r d f 0 = some x := by
  cases h : btT w r d f 0 with
  | some x => exact ⟨x, rfl⟩
  | none =>
    exfalso
    have hp : 0 ≤ w * r := Int.mul_nonneg (by omega) (by omega)
    have hq : w * r ≤ 21 * 21 := Int.mul_le_mul hw2 hr2 (by omega) (by omega)
    have := bt_none (d := d) (f := f) (show 0 < w by omega) (show 0 < r by omega) _ 0 (by omega) (by unfold inF; rw [fil_zero]; exact ⟨h0, hf⟩) h (7 * (w * r)) (by omega) (by omega)
    unfold inF fil at this
    have e1 : 7 * (w * r) / w = 7 * r := by rw [show 7 * (w * r) = 7 * r * w from by rw [Int.mul_comm w r, Int.mul_assoc]]; exact Int.mul_ediv_cancel _ (by omega)
    have e2 : 7 * (w * r) / r = 7 * w := by rw [show 7 * (w * r) = 7 * w * r from by rw [Int.mul_assoc]]; exact Int.mul_ediv_cancel _ (by omega)
    rw [e1, e2] at this
    omega
theorem bsK_is {w r d : Int} : ∀ (k : Nat), (∀ f : Nat, f < k → ∃ x, btT w r d f 0 = some x) → ∃ b l, bsK w r d k = some (b, l)
  | 0, _ => ⟨0, -1, rfl⟩
  | k + 1, h => by
    obtain ⟨b, l, e⟩ := bsK_is k (fun f hf => h f (by omega))
    obtain ⟨x, hx⟩ := h k (by omega)
    exact ⟨_, _, bsK_yes e hx⟩
theorem bsK_best {w r d : Int} (hw : 0 < w) (hr : 0 < r) : ∀ (k : Nat) (b l : Int), bsK w r d k = some (b, l) → (k = 0 ∧ b = 0 ∧ l = -1) ∨ (0 ≤ b ∧ b < (k : Int) ∧ btT w r d b 0 = some l ∧ 0 < l ∧ l ≤ 1000000 ∧ ∀ f : Nat, f < k → ∀ t, btT w r d f 0 = some t → t ≤ l)
  | 0, b, l, h => by
    have h : some ((0 : Int), (-1 : Int)) = some (b, l) := h
    injection h with h
    injection h with h1 h2
    exact .inl ⟨rfl, h1.symm, h2.symm⟩
  | k + 1, b, l, h => by
    cases e : bsK w r d k with
    | none => rw [bsK_none e 1] at h; cases h
    | some p =>
      obtain ⟨b0, l0⟩ := p
      cases e2 : btT w r d k 0 with
      | none => rw [bsK_no e2] at h; cases h
      | some t =>
        rw [bsK_yes e e2] at h
        have ht := bt_bd hw hr _ _ _ e2
        have ih := bsK_best hw hr k b0 l0 e
        right
        by_cases hlt : l0 < t
        · rw [if_pos hlt] at h
          injection h with h
          injection h with h1 h2
          subst h1 h2
          refine ⟨by omega, by omega, e2, by omega, by omega, fun f hf t' ht' => ?_⟩
          by_cases hfk : f = k
          · subst hfk; rw [e2] at ht'; injection ht' with ht'; omega
          · rcases ih with ⟨rfl, -, -⟩ | ⟨-, -, -, -, -, hall⟩
            · omega
            · have := hall f (by omega) t' ht'; omega
        · rw [if_neg hlt] at h
          injection h with h
          injection h with h1 h2
          subst h1 h2
          rcases ih with ⟨rfl, -, rfl⟩ | ⟨a1, a2, a3, a4, a5, hall⟩
          · omega
          · refine ⟨a1, by omega, a3, a4, a5, fun f hf t' ht' => ?_⟩
            by_cases hfk : f = k
            · subst hfk; rw [e2] at ht'; injection ht' with ht'; omega
            · exact hall f (by omega) t' ht'
end Go.Proofs.Ytcihogbkfpcfjaa
