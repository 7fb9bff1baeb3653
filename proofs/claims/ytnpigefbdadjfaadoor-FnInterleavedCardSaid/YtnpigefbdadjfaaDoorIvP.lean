/- What FnInterleaved asks, plain. -/
import Derived.Test.YtnpigefbdadjfaaDoorIlP
namespace Go.Proofs.YtnpigefbdadjfaaDoor
set_option linter.unusedVariables false

/-- For each place behind the one before, of the first i before. -/
def whM (r c i : Nat) : List Nat := (List.range (r * c)).map (fun k => if pb c r k < i then pb c r k else 0)
theorem whM_len (r c i : Nat) : (whM r c i).length = r * c := by simp [whM]
theorem whM_zero (r c : Nat) : whM r c 0 = List.replicate (r * c) 0 := by
  unfold whM
  refine List.ext_getElem (by simp) fun k h1 h2 => by simp
theorem pb_lt2 {r c k : Nat} (hr : 0 < r) (hk : k < r * c) : pb c r k < r * c := by
  have := pb_lt (r := c) (c := r) (i := k) hr (by rw [Nat.mul_comm]; exact hk)
  rwa [Nat.mul_comm c r] at this
theorem whM_at {r c k : Nat} (hr : 0 < r) (hk : k < r * c) : (whM r c (r * c)).getD k 0 = pb c r k := by
  unfold whM
  rw [List.getD, List.getElem?_map, List.getElem?_range hk]
  show (if pb c r k < r * c then pb c r k else 0) = _
  rw [if_pos (pb_lt2 hr hk)]
theorem whM_set {r c : Nat} (hr : 0 < r) (hc : 0 < c) (i : Nat) (hi : i < r * c) : whM r c (i + 1) = (whM r c i).set (pb r c i) i := by
  refine List.ext_getElem (by simp [whM_len]) fun k h1 h2 => ?_
  have hk : k < r * c := by rw [whM_len] at h1; exact h1
  rw [List.getElem_set]
  simp only [whM, List.getElem_map, List.getElem_range]
  by_cases e : pb r c i = k
  · rw [if_pos e, ← e, pb_inv hc hi, if_pos (Nat.lt_succ_self i)]
  · rw [if_neg e]
    have hne : pb c r k ≠ i := by
      intro h2
      have := pb_inv (r := c) (c := r) (i := k) hr (by rw [Nat.mul_comm]; exact hk)
      rw [h2] at this
      exact e this
    by_cases h3 : pb c r k < i
    · rw [if_pos h3, if_pos (by omega)]
    · rw [if_neg h3, if_neg (by omega)]
theorem pb_row {r c k : Nat} (hr : 0 < r) (hk : k < r * c) : pb c r k / c = k % r := by
  have hc : 0 < c := by
    rcases Nat.eq_zero_or_pos c with h | h
    · rw [h, Nat.mul_zero] at hk; omega
    · exact h
  unfold pb
  rw [Nat.add_comm, Nat.add_mul_div_right _ _ hc, Nat.div_eq_of_lt (by rw [Nat.div_lt_iff_lt_mul hr, Nat.mul_comm]; exact hk), Nat.zero_add]
theorem blkL_at {r c : Nat} (hr : 0 < r) (hc : 0 < c) (l : List UInt8) (i : Nat) (hi : i < r * c) : (blkL r c l).getD (pb r c i) 0 = l.getD i 0 := by
  unfold blkL blkT
  rw [List.getD, List.getElem?_map, List.getElem?_range (pb_lt hc hi)]
  show l.getD (pb c r (pb r c i)) 0 = _
  rw [pb_inv hc hi]
theorem blkL_back {r c : Nat} (hr : 0 < r) (hc : 0 < c) (l : List UInt8) (hl : l.length = r * c) : blkL c r (blkL r c l) = l := by
  refine List.ext_getElem (by unfold blkL; rw [blkT_len, Nat.mul_comm]; exact hl.symm) fun k h1 h2 => ?_
  have hk : k < r * c := by omega
  have e1 : (blkL c r (blkL r c l))[k]'h1 = (blkL r c l).getD (pb r c k) 0 := by
    simp only [blkL, blkT, List.getElem_map, List.getElem_range]
  rw [e1, blkL_at hr hc l k hk, List.getD, List.getElem?_eq_getElem h2]; rfl
/-- A burst's bits of one row are no more than told, behind each of its bits. -/
theorem burst_row {r : Nat} (f t b : Nat) (hr : 0 < r) (ht : t < b) : (cnR r f t).getD ((f + t) % r) 0 + 1 ≤ mxR r b := by
  rw [cnR_at f hr t t (Nat.le_refl _) (by omega)]
  have := mxR_mono (r := r) (show t + 1 ≤ b by omega)
  rw [mxR_succ] at this
  exact this
theorem burst_far {r c b i k : Nat} (hr : 0 < r) (hb : 2 ≤ b) (h2 : 2 ≤ r * c) (h1 : k < i) (hi : i < r * c) (hk : i < k + b) : (lapV r c b : Nat) ≤ dfN (pb c r k) (pb c r i) := (lapV_LA hr hb h2).le k i h1 hi hk
theorem cnR_le {r : Nat} (f : Nat) (hr : 0 < r) : ∀ t j, (cnR r f t).getD j 0 ≤ t
  | 0, j => by
    simp only [cnR, List.getD_eq_getElem?_getD, List.getElem?_replicate]
    split <;> simp
  | t + 1, j => by
    have h1 := cnR_le f hr t j
    have h2 := cnR_le f hr t ((f + t) % r)
    rw [cnR, List.getD_eq_getElem?_getD, List.getElem?_set]
    split
    · split
      · simp only [Option.getD_some]; omega
      · simp
    · rw [← List.getD_eq_getElem?_getD]; omega
end Go.Proofs.YtnpigefbdadjfaaDoor
