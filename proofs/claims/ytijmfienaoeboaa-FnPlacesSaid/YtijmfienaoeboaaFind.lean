/- Contracts of l01At, canBeIn and both FindBits. -/
import Derived.Test.YtijmfienaoeboaaBits
import Derived.Test.YtijmfienaoeboaaShelf
import Derived.WalkSmall
import Derived.Laws.IdiomStrings
namespace Go.Proofs.Ytijmfienaoeboaa
open Go Go.RowKit
set_option linter.unusedVariables false

/-- Where a part first begins from an index on; -1 if nowhere. -/
def findFrom (s p : List UInt8) (f : Nat) : Int := if Lib.index (s.drop f) p = -1 then -1 else f + Lib.index (s.drop f) p
theorem occ_drop (s p : List UInt8) (f j : Nat) : Lib.occAt (s.drop f) p j = Lib.occAt s p (f + j) := by
  unfold Lib.occAt; rw [List.drop_drop]
theorem findFrom_first (s p : List UInt8) (f k : Nat) (h1 : f ≤ k) (h2 : k ≤ s.length) (h3 : Lib.occAt s p k = true) (h4 : ∀ j, f ≤ j → j < k → Lib.occAt s p j = false) : findFrom s p f = k := by
  have e : Lib.index (s.drop f) p = ((k - f : Nat) : Int) := by
    refine Lib.index_first (by rw [List.length_drop]; omega) ?_ ?_
    · rw [occ_drop, show f + (k - f) = k from by omega]; exact h3
    · intro j hj; rw [occ_drop]; exact h4 _ (by omega) (by omega)
  unfold findFrom
  rw [e, if_neg (by omega)]; omega
theorem occ_end (s p : List UInt8) (j : Nat) (hp : p ≠ []) (h : s.length ≤ j) : Lib.occAt s p j = false := by
  cases hh : Lib.occAt s p j
  · rfl
  · rcases Lib.occAt_room hh with h' | h'
    · have : 0 < p.length := List.length_pos_iff.2 hp
      omega
    · exact absurd h' hp
theorem findFrom_none (s p : List UInt8) (f : Nat) (hp : p ≠ []) (h4 : ∀ j, f ≤ j → j < s.length → Lib.occAt s p j = false) : findFrom s p f = -1 := by
  have e : Lib.index (s.drop f) p = -1 := by
    refine Lib.index_none fun j hj => ?_
    rw [occ_drop]
    by_cases h : f + j < s.length
    · exact h4 _ (by omega) h
    · exact occ_end s p _ hp (by omega)
  unfold findFrom
  rw [e, if_pos rfl]
theorem findFrom_cases (s p : List UInt8) (f : Nat) (hf : f ≤ s.length) (hp : p ≠ []) : (findFrom s p f = -1 ∧ ∀ j, f ≤ j → Lib.occAt s p j = false) ∨ ∃ k : Nat, findFrom s p f = k ∧ f ≤ k ∧ k < s.length ∧ Lib.occAt s p k = true ∧ ∀ j, f ≤ j → j < k → Lib.occAt s p j = false := by
  rcases Lib.index_spec (s.drop f) p with ⟨h1, h2⟩ | ⟨i, h1, h2, h3, h4⟩
  · refine .inl ⟨by unfold findFrom; rw [if_pos h1], fun j hj => ?_⟩
    by_cases h : j ≤ s.length
    · have := h2 (j - f) (by rw [List.length_drop]; omega)
      rw [occ_drop, show f + (j - f) = j from by omega] at this
      exact this
    · exact occ_end s p j hp (by omega)
  · rw [List.length_drop] at h2
    rw [occ_drop] at h3
    refine .inr ⟨f + i, by unfold findFrom; rw [h1, if_neg (by omega)]; omega, by omega, ?_, h3, fun j hj1 hj2 => ?_⟩
    · rcases Nat.lt_or_ge (f + i) s.length with h | h
      · exact h
      · rw [occ_end s p _ hp h] at h3; cases h3
    · have := h4 (j - f) (by omega)
      rw [occ_drop, show f + (j - f) = j from by omega] at this
      exact this

set_option maxRecDepth 100000 in
theorem l01At_any (s p : ByteArray) (k : Nat) (w : World) (hs : s.size ≤ 400) (hp : p.size ≤ 400) (hk : k ≤ 400) (hpn : p.data.toList ≠ []) :
    Calls Try.prog 120 #[.string s, .string p, .int .i64 k] w fun e w' => e = .returned (.bool (Lib.occAt s.data.toList p.data.toList k)) ∧ w = w' := by
  by_cases h : k + p.size ≤ s.size
  · have hq : ((s.extract k (k + p.size)).toList == p.toList) = Lib.occAt s.data.toList p.data.toList k := by
      rw [Lib.occAt_iff_take _ _ _ (by simpa using h), ByteArray.toList_eq, ByteArray.toList_eq, ByteArray.data_extract]
      simp [Array.toList_extract]
    generalize Lib.occAt s.data.toList p.data.toList k = b at hq ⊢
    have h1 : (k : Int) + (p.size : Int) ≤ (s.size : Int) := by omega
    have t2 : ((k : Int) + (p.size : Int)).toNat = k + p.size := by omega
    have t3 : (0 : Int) ≤ (k : Int) := by omega
    have t4 : (k : Int) ≤ (k : Int) + (p.size : Int) := by omega
    cases b
    all_goals
      go_enter Try.func120, Try.ntmps120
      go_wp2
      go_ret
      exact ⟨rfl, rfl⟩
  · have hq : Lib.occAt s.data.toList p.data.toList k = false := by
      cases hh : Lib.occAt s.data.toList p.data.toList k
      · rfl
      · rcases Lib.occAt_room hh with h' | h'
        · exact absurd (by simpa using h') h
        · exact absurd h' hpn
    have HQ := Lib.hid hq
    have h1 : ¬ (k : Int) + (p.size : Int) ≤ (s.size : Int) := by omega
    clear hq
    go_enter Try.func120, Try.ntmps120
    go_wp2
    go_ret
    exact ⟨ret_bool (by rw [HQ.out]), rfl⟩

/-- What FindBits answers where the part begins at r behind f. -/
def fbV (f : Nat) (r : Int) : Int := if r = -1 then 0 else f + r
def fbF (r : Int) : Bool := decide (0 ≤ r)
/-- Bits and a part that is not empty. -/
def cbi (s p : List UInt8) : Bool := isB s && isB p && !p.isEmpty
theorem canBeIn_any (s p : ByteArray) (w : World) (hs : s.size ≤ maxLen) (hp : p.size ≤ maxLen) :
    Calls Try.prog 103 #[.string s, .string p] w fun e w' => e = .returned (.bool (cbi s.data.toList p.data.toList)) ∧ Below w.heap.size w w' := by
  have HS := Lib.hid hs
  have HP := Lib.hid hp
  clear hs hp
  cases hB : isB s.data.toList
  · have HC : Hid (cbi s.data.toList p.data.toList = false) := by show _ = _; unfold cbi; rw [hB]; rfl
    go_enter Try.func103, Try.ntmps103
    go_wp2_with fail
    refine (isBits_any _ _ HS.out).mono ?_; rintro e w1 ⟨rfl, hb1⟩
    go_wp2_with fail
    go_ret
    exact ⟨ret_bool (by rw [HC.out]), hb1⟩
  · cases hB2 : isB p.data.toList
    · have HC : Hid (cbi s.data.toList p.data.toList = false) := by show _ = _; unfold cbi; rw [hB, hB2]; rfl
      go_enter Try.func103, Try.ntmps103
      go_wp2_with fail
      refine (isBits_any _ _ HS.out).mono ?_; rintro e w1 ⟨rfl, hb1⟩
      go_wp2_with fail
      refine (isBits_any _ _ HP.out).mono ?_; rintro e w2 ⟨rfl, hb2⟩
      go_wp2_with fail
      go_ret
      exact ⟨ret_bool (by rw [HC.out]), hb1.trans (hb2.mono hb1.size)⟩
    · have HC : Hid (cbi s.data.toList p.data.toList = !p.data.toList.isEmpty) := by show _ = _; unfold cbi; rw [hB, hB2]; rfl
      go_enter Try.func103, Try.ntmps103
      go_wp2_with fail
      refine (isBits_any _ _ HS.out).mono ?_; rintro e w1 ⟨rfl, hb1⟩
      go_wp2_with fail
      refine (isBits_any _ _ HP.out).mono ?_; rintro e w2 ⟨rfl, hb2⟩
      go_wp2_with fail
      go_ret
      exact ⟨ret_bool (by rw [HC.out, ByteArray.toList_eq]), hb1.trans (hb2.mono hb1.size)⟩

def capB (W : World) (s : ByteArray) : Nat := grownCap W s.size 0 5
def rowB (W : World) (s : ByteArray) : Array Value := bytesRow s (capB W s)
def markB (W : World) (s : ByteArray) : Nat × Nat := ((rowB W s).size, (rowB W s).size + 1)
theorem convB (W : World) (s : ByteArray) : (convert 9 49 (.string s)).run Try.prog W = .ok (.slice (some ⟨W.heap.size, 0, none⟩) s.size (capB W s)) (W.drew.alloc (.cells (rowB W s) 5 (markB W s))) :=
  run_bytes_of_string W 9 49 5 s Try.underlying9 Try.underlying49 Try.underlying5
theorem capB_le (W : World) (s : ByteArray) : s.size ≤ capB W s := grownCap_ge _ _ _ _

/-- A byte as a number. -/
def nums (l : List UInt8) : List Int := l.map fun c => (c.toNat : Int)
theorem bytesOf_nums (l : List UInt8) : Lib.bytesOf (nums l) = l := by
  unfold Lib.bytesOf nums
  rw [List.map_map]
  conv => rhs; rw [← List.map_id l]
  apply List.map_congr_left
  intro c _
  simp
theorem nums_range (l : List UInt8) : ∀ x ∈ nums l, 0 ≤ x ∧ x < 256 := by
  intro x hx
  unfold nums at hx
  rw [List.mem_map] at hx
  obtain ⟨c, _, rfl⟩ := hx
  have := c.toNat_lt
  omega

theorem rowB_at (W : World) (s : ByteArray) (j : Nat) (h : j < s.size) : (rowB W s)[j]? = some (.int .u8 (s[j].toNat : Int)) := by
  unfold rowB bytesRow
  rw [Array.getElem?_append_left (by simpa using h), Array.getElem?_map, Array.getElem?_eq_getElem (by simpa using h)]
  rfl
/-- The two rows of bytes that FindBits makes. -/
def fw1 (w : World) (s : ByteArray) : World := w.alloc (.cells (rowB w s) 5 (markB w s))
def fw2 (w : World) (s p : ByteArray) : World := ((w.alloc (.cells (rowB w s) 5 (markB w s))).alloc (.cells (rowB (w.alloc (.cells (rowB w s) 5 (markB w s))).drew p) 5 (markB (w.alloc (.cells (rowB w s) 5 (markB w s))).drew p))).drew.drew
theorem fw2_cell1 (w : World) (s p : ByteArray) (j : Nat) (h : j < s.size) : (fw2 w s p).cell? ⟨w.heap.size, j, none⟩ = some (.int .u8 (s[j].toNat : Int)) := by
  show ((w.alloc (.cells (rowB w s) 5 (markB w s))).alloc _).cell? ⟨w.heap.size, j, none⟩ = _
  rw [World.cell?_alloc_lt _ _ _ (by simp), World.cell?_alloc_mark, rowB_at w s j h]
theorem fw2_cell2 (w : World) (s p : ByteArray) (j : Nat) (h : j < p.size) : (fw2 w s p).cell? ⟨w.heap.size + 1, j, none⟩ = some (.int .u8 (p[j].toNat : Int)) := by
  have e : (w.alloc (.cells (rowB w s) 5 (markB w s))).heap.size = w.heap.size + 1 := by simp
  show ((w.alloc (.cells (rowB w s) 5 (markB w s))).alloc _).cell? ⟨w.heap.size + 1, j, none⟩ = _
  rw [← e, World.cell?_alloc_mark, rowB_at _ p j h]
theorem fw2_old (w : World) (s p : ByteArray) (a : Addr) (h : a.block < w.heap.size) : (fw2 w s p).cell? a = w.cell? a := by
  show ((w.alloc (.cells (rowB w s) 5 (markB w s))).alloc _).cell? a = _
  rw [World.cell?_alloc_lt _ _ _ (by simp; omega), World.cell?_alloc_lt _ _ _ h]
theorem fw2_below (w : World) (s p : ByteArray) : Below w.heap.size w (fw2 w s p) :=
  ((((Below.refl _ _).alloc (Nat.le_refl _) _).alloc (by simp) _).drew).drew

theorem add_plain (b o i : Nat) : (⟨b, o, none⟩ : Addr).add i = ⟨b, o + i, none⟩ := by unfold Addr.add; split <;> simp_all

theorem findIndex (s p : ByteArray) (f o : Nat) (m : Int) (w : World) (hm : w.cell? ⟨0, 0, none⟩ = some (.int .i64 m)) (hs : s.size ≤ 400) (hp : p.size ≤ 400) (hf : f ≤ s.size) (ho : o = f ∨ f = s.size) (c1 c2 : Nat) (hcap : s.size - f ≤ c1) :
    Calls Try.prog 104 #[.slice (some ⟨w.heap.size, o, none⟩) (s.size - f) c1, .slice (some ⟨w.heap.size + 1, 0, none⟩) p.size c2] (fw2 w s p) fun e w' => e = .returned (.int .i64 (Lib.index (s.data.toList.drop f) p.data.toList)) ∧ ∃ q, w' = (fw2 w s p).drewN q := by
  have h := Try.bytes_Index_at ⟨w.heap.size, o, none⟩ ⟨w.heap.size + 1, 0, none⟩ (s.size - f) c1 p.size c2 (nums (s.data.toList.drop f)) (nums p.data.toList) m (fw2 w s p) (by simp [nums]) (by simp [nums]) (nums_range _) (nums_range _)
    (by
      intro i hi
      rcases ho with rfl | ho
      · rw [add_plain, fw2_cell1 w s p (o + i) (by omega)]
        congr 2
        unfold nums
        rw [List.getD_eq_getElem?_getD, List.getElem?_map, List.getElem?_drop, List.getElem?_eq_getElem (by simp; omega)]
        rfl
      · omega)
    (by
      intro i hi
      rw [add_plain, fw2_cell2 w s p (0 + i) (by omega)]
      congr 2
      unfold nums
      rw [List.getD_eq_getElem?_getD, List.getElem?_map, List.getElem?_eq_getElem (by simpa using hi)]
      simp [Nat.zero_add]
      rfl)
    hcap (by omega) (by omega) (by rw [fw2_old w s p _ (World.block_lt_of_cell? w _ hm)]; exact hm)
  rw [bytesOf_nums, bytesOf_nums] at h
  exact h

set_option maxRecDepth 100000 in
theorem findBits_impl (s p : ByteArray) (f : Nat) (m : Int) (w : World) (hm : w.cell? ⟨0, 0, none⟩ = some (.int .i64 m)) (hs : s.size ≤ 400) (hp : p.size ≤ 400) (hc : cbi s.data.toList p.data.toList = true) (hf : f ≤ s.size) (r : Int) (hr : Lib.index (s.data.toList.drop f) p.data.toList = r) (hr1 : -1 ≤ r) (hr2 : r ≤ 400) :
    Calls Try.prog 47 #[.string s, .string p, .int .i64 f] w fun e w' => e = .returned (.tuple #[.int .i64 (fbV f r), .bool (fbF r)]) ∧ Below w.heap.size w w' := by
  have HM := Lib.hid hm
  have HR := Lib.hid hr
  clear hm hr
  have k1 := fun W => convB W s
  have k2 := fun W => convB W p
  have f0 : (0 : Int) ≤ (f : Int) := by omega
  have f1 : (f : Int) ≤ (s.size : Int) := by omega
  by_cases hneg : r = -1
  · have H1 : Hid (fbV f r = 0) := if_pos hneg
    have H2 : Hid (fbF r = false) := decide_eq_false (by omega)
    have hlt : r < 0 := by omega
    rw [H1.out, H2.out]
    clear hneg
    go_enter Try.func47, Try.ntmps47
    go_wp2_with fail
    refine (canBeIn_any _ _ _ (by unfold maxLen; omega) (by unfold maxLen; omega)).mono ?_; rintro e w1 ⟨rfl, hb1⟩
    go_wp2_with (first | (go_at_call 86; go_in) | fail)
    all_goals
      have hm1 : w1.cell? ⟨0, 0, none⟩ = some (.int .i64 m) := (hb1.cell (World.block_lt_of_cell? w _ HM.out)).trans HM.out
      refine (findIndex s p f _ m w1 hm1 hs hp hf (by first | exact Or.inl rfl | (have := capB_le w1 s; omega)) _ _ (by have := capB_le w1 s; omega)).mono ?_
      rw [HR.out]
      rintro e w2 ⟨rfl, q, rfl⟩
      clear k1 k2 hm1
      generalize hW : (fw2 w1 s p).drewN q = W
      have HW := Lib.hid hW
      clear hW
      go_wp2_with fail
      go_ret2
      exact ⟨rfl, by rw [← HW.out]; exact below_drewN (hb1.trans ((fw2_below w1 s p).mono hb1.size)) q⟩
  · have H1 : Hid (fbV f r = (f : Int) + r) := if_neg hneg
    have H2 : Hid (fbF r = true) := decide_eq_true (by omega)
    have hlt : ¬ r < 0 := by omega
    have hlt2 : 0 ≤ r := by omega
    rw [H1.out, H2.out]
    clear hneg
    go_enter Try.func47, Try.ntmps47
    go_wp2_with fail
    refine (canBeIn_any _ _ _ (by unfold maxLen; omega) (by unfold maxLen; omega)).mono ?_; rintro e w1 ⟨rfl, hb1⟩
    go_wp2_with (first | (go_at_call 86; go_in) | fail)
    all_goals
      have hm1 : w1.cell? ⟨0, 0, none⟩ = some (.int .i64 m) := (hb1.cell (World.block_lt_of_cell? w _ HM.out)).trans HM.out
      refine (findIndex s p f _ m w1 hm1 hs hp hf (by first | exact Or.inl rfl | (have := capB_le w1 s; omega)) _ _ (by have := capB_le w1 s; omega)).mono ?_
      rw [HR.out]
      rintro e w2 ⟨rfl, q, rfl⟩
      clear k1 k2 hm1
      generalize hW : (fw2 w1 s p).drewN q = W
      have HW := Lib.hid hW
      clear hW
      go_wp2_with fail
      go_ret2
      exact ⟨rfl, by rw [← HW.out]; exact below_drewN (hb1.trans ((fw2_below w1 s p).mono hb1.size)) q⟩
end Go.Proofs.Ytijmfienaoeboaa
