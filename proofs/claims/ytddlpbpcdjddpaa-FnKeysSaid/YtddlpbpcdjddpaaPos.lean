/- Where a number first is in a list (plain). -/
import Derived.Test.YtddlpbpcdjddpaaPl
namespace Go.Proofs.Ytddlpbpcdjddpaa
set_option linter.unusedVariables false
open Go Go.RowKit

def pos (x : Int) : List Int → Nat
  | [] => 0
  | y :: l => if y = x then 0 else pos x l + 1
theorem pos_le (x : Int) : ∀ l : List Int, pos x l ≤ l.length
  | [] => Nat.le_refl _
  | y :: l => by have := pos_le x l; rw [pos]; split <;> simp <;> omega
theorem pos_of (x : Int) : ∀ (l : List Int) (k : Nat) (hk : k < l.length), l[k] = x → (∀ j (hj : j < k), l[j]'(by omega) ≠ x) → pos x l = k
  | [], k, hk, _, _ => by simp at hk
  | y :: l, 0, hk, h, _ => by simp at h; simp [pos, h]
  | y :: l, k + 1, hk, h, hb => by
    have h0 := hb 0 (by omega)
    simp at h0 h
    rw [pos, if_neg h0, pos_of x l k (by simp at hk; omega) h (fun j hj => by have := hb (j + 1) (by omega); simpa using this)]
theorem pos_none (x : Int) : ∀ (l : List Int), (∀ j (hj : j < l.length), l[j] ≠ x) → pos x l = l.length
  | [], _ => rfl
  | y :: l, hb => by
    have h0 := hb 0 (by simp)
    simp at h0
    rw [pos, if_neg h0, pos_none x l (fun j hj => by have := hb (j + 1) (by simp; omega); simpa using this)]; rfl
theorem has_at {l : List Int} {x : Int} {k : Nat} (hk : k < l.length) (h : l[k] = x) : l.contains x = true := by
  rw [List.contains_iff_mem, ← h]; exact List.getElem_mem hk
theorem has_not {l : List Int} {x : Int} (h : ∀ j (hj : j < l.length), l[j] ≠ x) : l.contains x = false := by
  cases e : l.contains x
  · rfl
  · rw [List.contains_iff_mem] at e
    obtain ⟨k, hk, e⟩ := List.getElem_of_mem e
    exact absurd e (h k hk)
/-- What slices.Index answers. -/
def idxI (l : List Int) (x : Int) : Int := if pos x l < l.length then (pos x l : Int) else -1
theorem idxI_at {l : List Int} {x : Int} {k : Nat} (hk : k < l.length) (h : l[k] = x) (hb : ∀ j (hj : j < k), l[j]'(by omega) ≠ x) : idxI l x = k := by
  unfold idxI; rw [pos_of x l k hk h hb, if_pos hk]
theorem idxI_none {l : List Int} {x : Int} (hb : ∀ j (hj : j < l.length), l[j] ≠ x) : idxI l x = -1 := by
  unfold idxI; rw [pos_none x l hb, if_neg (Nat.lt_irrefl _)]
theorem idxI_has (l : List Int) (x : Int) : l.contains x = decide (0 ≤ idxI l x) := by
  cases e : l.contains x
  · have : ∀ j (hj : j < l.length), l[j] ≠ x := fun j hj h => by rw [has_at hj h] at e; cases e
    rw [idxI_none this]; rfl
  · unfold idxI
    have hp : pos x l < l.length := by
      rcases Nat.lt_or_ge (pos x l) l.length with h | h
      · exact h
      · exfalso
        rw [List.contains_iff_mem] at e
        induction l with
        | nil => cases e
        | cons y l ih =>
          rw [pos] at h
          split at h
          · simp at h
          · rename_i hy
            simp at e
            rcases e with e | e
            · exact hy e.symm
            · exact ih e (by simp at h; omega)
    rw [if_pos hp, decide_eq_true (by omega)]
end Go.Proofs.Ytddlpbpcdjddpaa
