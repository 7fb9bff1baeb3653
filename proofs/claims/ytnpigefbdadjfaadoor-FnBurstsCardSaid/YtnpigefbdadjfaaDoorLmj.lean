/- LeastMissed: the model's and the program's. -/
import Derived.Test.YtnpigefbdadjfaaDoorLmi
namespace Go.Proofs.YtnpigefbdadjfaaDoor
open Go Go.RowKit Go.Shelf
set_option linter.unusedVariables false

theorem lm_first (p d L k : Nat) (h : lmL p d L k = []) (h1 : 1 ≤ k) (hc : 0 < cmN p d L k) : ∀ j, ∃ r, lmL p d L (k + 1 + j) = k :: r ∧ ∀ x ∈ r, k ≤ x := by
  intro j
  induction j with
  | zero => exact ⟨[], by rw [Nat.add_zero, lmL_succ _ _ _ _ h1, if_pos hc, h]; rfl, by simp⟩
  | succ j ih =>
    obtain ⟨r, e, hr⟩ := ih
    have hs := lmL_succ p d L (k + 1 + j) (by omega)
    rw [show k + 1 + j + 1 = k + 1 + (j + 1) by omega] at hs
    by_cases h0 : 0 < cmN p d L (k + 1 + j)
    · rw [if_pos h0, e] at hs
      refine ⟨r ++ [k + 1 + j], hs, fun x hx => ?_⟩
      rcases List.mem_append.1 hx with h' | h'
      · exact hr x h'
      · have := List.mem_singleton.1 h'; omega
    · rw [if_neg h0, e] at hs
      exact ⟨r, hs, hr⟩
theorem foldl_low : ∀ (r : List Nat) (k : Nat), (∀ x ∈ r, k ≤ x) → (r.map (fun (c : Nat) => (c : Int))).foldl min (k : Int) = (k : Int)
  | [], k, _ => rfl
  | y :: r, k, h => by
    show (r.map _).foldl min (min (k : Int) (y : Int)) = _
    rw [show min (k : Int) (y : Int) = (k : Int) by have := h y (by simp); omega]
    exact foldl_low r k (fun x hx => h x (by simp [hx]))
def lmS (p d L : Nat) : List Int := (lmL p d L 5).map (fun (c : Nat) => (c : Int))
theorem lmS_first (p d L k : Nat) (h : lmL p d L k = []) (h1 : 1 ≤ k) (h4 : k ≤ 4) (hc : 0 < cmN p d L k) : lsV (lmS p d L) = k ∧ decide (lmS p d L = []) = false := by
  obtain ⟨r, e, hr⟩ := lm_first p d L k h h1 hc (4 - k)
  rw [show k + 1 + (4 - k) = 5 by omega] at e
  unfold lmS
  rw [e]
  refine ⟨foldl_low r k hr, decide_eq_false (by simp)⟩
theorem lmS_none (p d L : Nat) (h : lmL p d L 5 = []) : lsV (lmS p d L) = 0 ∧ decide (lmS p d L = []) = true := by unfold lmS; rw [h]; exact ⟨rfl, rfl⟩
def lmIn (p L : Int) : Bool := ckB p && decide (1 ≤ L ∧ L ≤ 32)
def lmV (p L : Int) : Int := if lmIn p L then lsV (lmS p.toNat (Nat.log2 p.toNat) L.toNat) else 0
def lmOk (p L : Int) : Bool := lmIn p L && !decide (lmS p.toNat (Nat.log2 p.toNat) L.toNat = [])
theorem lm_no {p L : Int} (h : lmIn p L = false) : lmV p L = 0 ∧ lmOk p L = false := by unfold lmV lmOk; rw [h]; exact ⟨rfl, rfl⟩
theorem lm_yes {p L : Int} (h : lmIn p L = true) : lmV p L = lsV (lmS p.toNat (Nat.log2 p.toNat) L.toNat) ∧ lmOk p L = !decide (lmS p.toNat (Nat.log2 p.toNat) L.toNat = []) := by unfold lmV lmOk; rw [h]; exact ⟨rfl, by simp⟩

theorem ret_ib8 {x y : Int} {c d : Bool} (h : x = y) (h2 : c = d) : Ending.returned (.tuple #[.int .i64 x, .bool c]) = .returned (.tuple #[.int .i64 y, .bool d]) := by rw [h, h2]
end Go.Proofs.YtnpigefbdadjfaaDoor
