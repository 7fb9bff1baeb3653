/- Plain facts on blocks of bits that are turned, and on bits that are later by branches, without the program. -/
namespace Go.Proofs.YtnpigefbdadjfaaDoor
set_option linter.unusedVariables false
set_option linter.unusedSimpArgs false

/-- The place by columns of a place by rows. -/
def pb (r c i : Nat) : Nat := i % c * r + i / c
theorem pb_lt {r c i : Nat} (hc : 0 < c) (hi : i < r * c) : pb r c i < r * c := by
  unfold pb
  have h1 := Nat.mod_lt i hc
  have h2 : i / c < r := (Nat.div_lt_iff_lt_mul hc).2 hi
  have h3 : (i % c + 1) * r ≤ c * r := Nat.mul_le_mul_right r h1
  rw [Nat.add_mul, Nat.one_mul] at h3
  rw [Nat.mul_comm r c]; omega
theorem pb_at {r c a b : Nat} (hb : b < r) (hr : 0 < r) : pb c r (a * r + b) = b * c + a := by
  unfold pb
  rw [Nat.add_comm (a * r) b, Nat.add_mul_mod_self_right, Nat.mod_eq_of_lt hb, Nat.add_mul_div_right _ _ hr, Nat.div_eq_of_lt hb, Nat.zero_add]
theorem pb_inv {r c i : Nat} (hc : 0 < c) (hi : i < r * c) : pb c r (pb r c i) = i := by
  have h2 : i / c < r := (Nat.div_lt_iff_lt_mul hc).2 hi
  have e : pb r c i = i % c * r + i / c := rfl
  rw [e, pb_at h2 (Nat.lt_of_le_of_lt (Nat.zero_le _) h2), Nat.mul_comm]
  exact Nat.div_add_mod i c
/-- The first bits of a block by columns. -/
def blkT (r c : Nat) (l : List UInt8) (n : Nat) : List UInt8 := (List.range n).map (fun k => l.getD (pb c r k) 0)
def blkL (r c : Nat) (l : List UInt8) : List UInt8 := blkT r c l (r * c)
theorem blkT_len (r c : Nat) (l : List UInt8) (n : Nat) : (blkT r c l n).length = n := by simp [blkT]
theorem blkT_snoc (r c : Nat) (l : List UInt8) (a b : Nat) (hb : b < r) : blkT r c l (a * r + b + 1) = blkT r c l (a * r + b) ++ [l.getD (b * c + a) 0] := by
  unfold blkT
  rw [List.range_succ, List.map_append, List.map_singleton, pb_at hb (by omega)]
theorem blkT_next (r c : Nat) (l : List UInt8) (a : Nat) : blkT r c l (a * r + r) = blkT r c l ((a + 1) * r + 0) := by rw [Nat.add_mul, Nat.one_mul, Nat.add_zero]
theorem blk_in {r c a b : Nat} (ha : a < c) (hb : b < r) : b * c + a < r * c := by
  have : (b + 1) * c ≤ r * c := Nat.mul_le_mul_right c hb
  rw [Nat.add_mul, Nat.one_mul] at this; omega
/-- What has been moved to its place. -/
def mvM (r c : Nat) (l : List UInt8) (i : Nat) : List UInt8 := (List.range (r * c)).map (fun k => if pb c r k < i then l.getD (pb c r k) 0 else 0)
theorem mvM_len (r c : Nat) (l : List UInt8) (i : Nat) : (mvM r c l i).length = r * c := by simp [mvM]
theorem mvM_zero (r c : Nat) (l : List UInt8) : mvM r c l 0 = List.replicate (r * c) 0 := by
  unfold mvM
  refine List.ext_getElem (by simp) fun k h1 h2 => by simp
theorem mvM_all {r c : Nat} (hr : 0 < r) (l : List UInt8) : mvM r c l (r * c) = blkL r c l := by
  unfold mvM blkL blkT
  refine List.map_congr_left fun k hk => ?_
  have hk2 : k < r * c := by simpa using hk
  have := pb_lt (r := c) (c := r) (i := k) hr (by rw [Nat.mul_comm]; exact hk2)
  rw [Nat.mul_comm c r] at this
  rw [if_pos this]
theorem mvM_set {r c : Nat} (hr : 0 < r) (hc : 0 < c) (l : List UInt8) (i : Nat) (hi : i < r * c) : mvM r c l (i + 1) = (mvM r c l i).set (pb r c i) (l.getD i 0) := by
  refine List.ext_getElem (by simp [mvM_len]) fun k h1 h2 => ?_
  have hk : k < r * c := by rw [mvM_len] at h1; exact h1
  rw [List.getElem_set]
  simp only [mvM, List.getElem_map, List.getElem_range]
  by_cases e : pb r c i = k
  · rw [if_pos e, ← e, pb_inv hc hi, if_pos (Nat.lt_succ_self i)]
  · rw [if_neg e]
    have hne : pb c r k ≠ i := by
      intro h2
      have := pb_inv (r := c) (c := r) (i := k) hr (by rw [Nat.mul_comm]; exact hk)
      rw [h2] at this
      exact e this
    by_cases h3 : pb c r k < i
    · rw [if_pos h3, if_pos (by omega)]
    · rw [if_neg h3, if_neg (by omega)]
/-- The counts of a burst's first bits by rows. -/
def cnR (r f : Nat) : Nat → List Nat
  | 0 => List.replicate r 0
  | t + 1 => (cnR r f t).set ((f + t) % r) ((cnR r f t).getD ((f + t) % r) 0 + 1)
theorem cnR_len (r f : Nat) : ∀ t, (cnR r f t).length = r
  | 0 => by simp [cnR]
  | t + 1 => by rw [cnR, List.length_set]; exact cnR_len r f t
theorem mod_far {r f t j : Nat} (h1 : t < j) (h2 : j < t + r) : (f + j) % r ≠ (f + t) % r := by
  intro e
  have h3 := Nat.sub_mod_eq_zero_of_mod_eq e
  rw [show f + j - (f + t) = j - t by omega, Nat.mod_eq_of_lt (by omega)] at h3
  omega
theorem cnR_at {r : Nat} (f : Nat) (hr : 0 < r) : ∀ t j, t ≤ j → j < t + r → (cnR r f t).getD ((f + j) % r) 0 = j / r
  | 0, j, _, h => by
    have : (f + j) % r < r := Nat.mod_lt _ hr
    rw [Nat.div_eq_of_lt (by omega)]
    simp [cnR, List.getD_eq_getElem?_getD, List.getElem?_replicate, this]
  | t + 1, j, h1, h2 => by
    have hm : (f + t) % r < r := Nat.mod_lt _ hr
    rw [cnR, List.getD_eq_getElem?_getD, List.getElem?_set]
    by_cases e : j = t + r
    · subst e
      rw [show f + (t + r) = f + t + r by omega, Nat.add_mod_right, if_pos rfl, if_pos (by rw [cnR_len]; exact hm), cnR_at f hr t t (Nat.le_refl _) (by omega), Nat.add_div_right _ hr]
      rfl
    · rw [if_neg (fun e2 => mod_far (by omega) (by omega) e2.symm), ← List.getD_eq_getElem?_getD, cnR_at f hr t j (by omega) (by omega)]
/-- The greatest number of bits of one row among t neighbours. -/
def mxR (r t : Nat) : Nat := if t = 0 then 0 else (t - 1) / r + 1
theorem mxR_succ (r t : Nat) : mxR r (t + 1) = t / r + 1 := by simp [mxR]
theorem mxR_mono {r s t : Nat} (h : s ≤ t) : mxR r s ≤ mxR r t := by
  unfold mxR
  by_cases h0 : s = 0
  · rw [if_pos h0]; omega
  · rw [if_neg h0, if_neg (by omega)]
    have := Nat.div_le_div_right (c := r) (show s - 1 ≤ t - 1 by omega)
    omega
theorem mxR_max (r t : Nat) : max (mxR r t) (t / r + 1) = mxR r (t + 1) := by
  rw [← mxR_succ]
  have := mxR_mono (r := r) (show t ≤ t + 1 by omega)
  omega
/-- How far two places are apart. -/
def dfN (x y : Nat) : Nat := if x ≤ y then y - x else x - y
def prs (r c b : Nat) : List Nat := (List.range (r * c)).flatMap (fun i => (List.range (r * c)).filterMap (fun k => if i < k ∧ k < i + b then some (dfN (pb c r i) (pb c r k)) else none))
/-- The least difference of two places of a burst. -/
def lapV (r c b : Nat) : Nat := (prs r c b).foldl min (r * c)
structure LA (r c b v : Nat) : Prop where
  le : ∀ i k, i < k → k < r * c → k < i + b → v ≤ dfN (pb c r i) (pb c r k)
  at_ : ∃ i k, i < k ∧ k < r * c ∧ k < i + b ∧ v = dfN (pb c r i) (pb c r k)
theorem foldl_min : ∀ (l : List Nat) (a : Nat), l.foldl min a ≤ a ∧ (∀ x ∈ l, l.foldl min a ≤ x) ∧ (l.foldl min a = a ∨ l.foldl min a ∈ l)
  | [], a => by simp
  | y :: l, a => by
    obtain ⟨h1, h2, h3⟩ := foldl_min l (min a y)
    show l.foldl min (min a y) ≤ a ∧ _ ∧ (l.foldl min (min a y) = a ∨ l.foldl min (min a y) ∈ y :: l)
    refine ⟨by omega, fun x hx => ?_, ?_⟩
    · show l.foldl min (min a y) ≤ x
      rcases List.mem_cons.1 hx with rfl | hx
      · omega
      · exact h2 x hx
    · rcases h3 with h3 | h3
      · by_cases h4 : a ≤ y
        · left; rw [h3]; omega
        · right; rw [h3, show min a y = y by omega]; exact List.mem_cons_self ..
      · right; exact List.mem_cons_of_mem _ h3
theorem mem_prs {r c b x : Nat} : x ∈ prs r c b ↔ ∃ i k, i < k ∧ k < r * c ∧ k < i + b ∧ x = dfN (pb c r i) (pb c r k) := by
  unfold prs
  simp only [List.mem_flatMap, List.mem_filterMap, List.mem_range]
  constructor
  · rintro ⟨i, hi, k, hk, h⟩
    split at h
    · rename_i hc
      injection h with h
      exact ⟨i, k, hc.1, hk, hc.2, h.symm⟩
    · cases h
  · rintro ⟨i, k, h1, h2, h3, rfl⟩
    exact ⟨i, by omega, k, h2, by rw [if_pos ⟨h1, h3⟩]⟩
theorem dfN_lt {x y n : Nat} (hx : x < n) (hy : y < n) : dfN x y < n := by unfold dfN; split <;> omega
theorem dfN_comm (x y : Nat) : dfN x y = dfN y x := by unfold dfN; split <;> split <;> omega
theorem LA.is {r c b v : Nat} (hr : 0 < r) (h : LA r c b v) : v = lapV r c b := by
  obtain ⟨h1, h2, h3⟩ := foldl_min (prs r c b) (r * c)
  obtain ⟨i, k, a1, a2, a3, e⟩ := h.at_
  have hm : v ∈ prs r c b := mem_prs.2 ⟨i, k, a1, a2, a3, e⟩
  have l1 : lapV r c b ≤ v := h2 v hm
  have hv : v < r * c := by
    rw [e]
    have p1 := pb_lt (r := c) (c := r) (i := i) hr (by rw [Nat.mul_comm]; omega)
    have p2 := pb_lt (r := c) (c := r) (i := k) hr (by rw [Nat.mul_comm]; omega)
    rw [Nat.mul_comm c r] at p1 p2
    exact dfN_lt p1 p2
  rcases h3 with h3 | h3
  · have : lapV r c b = r * c := h3
    omega
  · obtain ⟨i2, k2, b1, b2, b3, e2⟩ := mem_prs.1 h3
    have l2 := h.le i2 k2 b1 b2 b3
    have : lapV r c b = dfN (pb c r i2) (pb c r k2) := e2
    omega
theorem lapV_lt {r c b : Nat} (hr : 0 < r) (hb : 2 ≤ b) (h : 2 ≤ r * c) : lapV r c b < r * c := by
  obtain ⟨h1, h2, h3⟩ := foldl_min (prs r c b) (r * c)
  have hm := h2 (dfN (pb c r 0) (pb c r 1)) (mem_prs.2 ⟨0, 1, by omega, by omega, by omega, rfl⟩)
  have p1 := pb_lt (r := c) (c := r) (i := 0) hr (by rw [Nat.mul_comm]; omega)
  have p2 := pb_lt (r := c) (c := r) (i := 1) hr (by rw [Nat.mul_comm]; omega)
  rw [Nat.mul_comm c r] at p1 p2
  have := dfN_lt p1 p2
  have e : lapV r c b = (prs r c b).foldl min (r * c) := rfl
  omega
theorem lapV_LA {r c b : Nat} (hr : 0 < r) (hb : 2 ≤ b) (h : 2 ≤ r * c) : LA r c b (lapV r c b) := by
  obtain ⟨h1, h2, h3⟩ := foldl_min (prs r c b) (r * c)
  have hl := lapV_lt (b := b) hr hb h
  refine ⟨fun i k a1 a2 a3 => h2 _ (mem_prs.2 ⟨i, k, a1, a2, a3, rfl⟩), ?_⟩
  rcases h3 with h3 | h3
  · have : lapV r c b = r * c := h3
    omega
  · obtain ⟨i, k, b1, b2, b3, e⟩ := mem_prs.1 h3
    exact ⟨i, k, b1, b2, b3, e⟩
/-- By how much the bit at a place is later. -/
def dlN (br st : Nat) (up : Bool) (j : Nat) : Nat := (if up then j % br else br - 1 - j % br) * st * br
def slT (br st : Nat) (up : Bool) (l : List UInt8) (n : Nat) : List UInt8 := (List.range n).map (fun j => if dlN br st up j ≤ j then l.getD (j - dlN br st up j) 0 else 48)
def slL (br st : Nat) (up : Bool) (l : List UInt8) : List UInt8 := slT br st up l l.length
theorem slT_len (br st : Nat) (up : Bool) (l : List UInt8) (n : Nat) : (slT br st up l n).length = n := by simp [slT]
theorem slT_snoc (br st : Nat) (up : Bool) (l : List UInt8) (n : Nat) : slT br st up l (n + 1) = slT br st up l n ++ [if dlN br st up n ≤ n then l.getD (n - dlN br st up n) 0 else 48] := by
  unfold slT; rw [List.range_succ, List.map_append]; rfl
theorem dl_bd {br st i : Nat} (h1 : i < br) (h2 : br ≤ 20) (h3 : st ≤ 20) : i * st * br ≤ 7600 := by
  have a : i * st ≤ 19 * 20 := Nat.mul_le_mul (by omega) h3
  have b : i * st * br ≤ 19 * 20 * 20 := Nat.mul_le_mul a h2
  omega
theorem dl_down (br st i : Nat) (h : i < br) : (br - 1 - i) * st * br = (br - 1) * st * br - i * st * br := by
  rw [Nat.sub_mul, Nat.sub_mul]
end Go.Proofs.YtnpigefbdadjfaaDoor
