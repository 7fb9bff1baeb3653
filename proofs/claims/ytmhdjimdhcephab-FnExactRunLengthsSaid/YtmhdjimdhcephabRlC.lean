/- Both RunLengths (the program by lengthsOfRuns), and the walk of their law. -/
import Derived.Test.YtmhdjimdhcephabRlB
import Derived.Test.YtmhdjimdhcephabCvb
namespace Go.Proofs.Ytmhdjimdhcephab
open Go Go.RowKit
set_option linter.unusedVariables false

/-- Bytes as numbers. -/
def u8I (l : List UInt8) : List Int := l.map fun b => (b.toNat : Int)
theorem u8I_at (l : List UInt8) (k : Nat) (h : k < l.length) : (u8I l).getD k 0 = (l[k].toNat : Int) := by
  unfold u8I
  rw [List.getD_eq_getElem?_getD, List.getElem?_map, List.getElem?_eq_getElem h]; rfl
theorem flK_runs (l : List UInt8) : ∀ k, k ≤ l.length → flK (u8I l) k = runsK l k := by
  intro k
  induction k with
  | zero => intro _; rfl
  | succ k ih =>
    intro hk
    have ih := ih (by omega)
    have he : ((u8I l).getD k 0 ≠ (u8I l).getD (k - 1) 0) ↔ (l[k]? ≠ l[k - 1]?) := by
      rw [u8I_at l k (by omega), u8I_at l (k - 1) (by omega), List.getElem?_eq_getElem (show k < l.length by omega), List.getElem?_eq_getElem (show k - 1 < l.length by omega)]
      constructor
      · intro h e; injection e with e; rw [e] at h; exact h rfl
      · intro h e
        apply h
        have : l[k].toNat = l[k - 1].toNat := by omega
        rw [UInt8.toNat_inj.1 this]
    by_cases hn : k = 0 ∨ l[k]? ≠ l[k - 1]?
    · rw [runsK_new l k hn, flK_new _ k (hn.imp id he.2), ih]
    · rw [runsK_old l k hn, flK_old _ k (fun h => hn (h.imp id he.1)), ih]

set_option maxRecDepth 100000 in
/-- impl.RunLengths of few bits: a new row with the lengths. -/
theorem runLengths_yes_impl (s : ByteArray) (w : World) (hs : s.size ≤ 400) (hB : isB s.data.toList = true) :
    Calls Try.prog 31 #[.string s] w fun e w' => ∃ v, e = .returned (.tuple #[v, .bool true]) ∧ Own w' w.heap.size v (runsK s.data.toList s.size) ∧ Below w.heap.size w w' := by
  have HSZ := Lib.hid hs
  have HB := Lib.hid hB
  clear hB
  go_enter Try.func31, Try.ntmps31
  go_wp2_with fail
  refine (isBits_any _ _ (by unfold maxLen; omega)).mono ?_; rintro e wi ⟨rfl, hbi⟩
  rw [HB.out]
  have hW1 := hbi.size
  have hcv := convB wi s
  have HR8 : Hid (R8 (wi.drew.alloc (.cells (rowB wi s) 5 (markB wi s))) (.slice (some ⟨wi.heap.size, 0, none⟩) s.size (capB wi s)) (u8I s.data.toList)) := by
    refine ⟨_, _, _, rfl, by simp [u8I], fun _ => ⟨wi.heap.size, 0, rfl, by simp, fun i hi => ?_⟩⟩
    have hi' : i < s.size := by simpa [u8I] using hi
    rw [Nat.zero_add]
    have := World.cell?_alloc_mark wi.drew (rowB wi s) 5 (markB wi s) i
    rw [show wi.drew.heap.size = wi.heap.size from rfl] at this
    rw [this, rowB_at wi s i hi']
    simp [u8I]
    rfl
  have HLE : Hid ((u8I s.data.toList).length ≤ 800) := by show _ ≤ _; have := HSZ.out; simp [u8I]; omega
  have HFL : Hid (flK (u8I s.data.toList) (u8I s.data.toList).length = runsK s.data.toList s.size) := by
    show _ = _
    rw [show (u8I s.data.toList).length = s.data.toList.length by simp [u8I], flK_runs _ _ (Nat.le_refl _)]
    simp
  have HBW : Hid (Below w.heap.size w (wi.drew.alloc (.cells (rowB wi s) 5 (markB wi s)))) := by show Below _ _ _; exact hbi.drew.alloc hW1 _
  have HC := Lib.hid (lengthsB_any _ _ _ HR8.out HLE.out)
  rw [HFL.out] at HC
  have HZ : Hid (w.heap.size ≤ (wi.drew.alloc (.cells (rowB wi s) 5 (markB wi s))).heap.size) := by show _ ≤ _; exact HBW.out.size
  clear hbi
  go_wp2_with fail
  refine HC.out.mono ?_; rintro e w2 ⟨u, rfl, ho, hb⟩
  have ho2 : Own w2 w.heap.size u (runsK s.data.toList s.size) := by
    refine ⟨ho.1, ?_⟩
    rcases ho.2 with h' | ⟨g, cap, cur, h1, h2, h3⟩
    · exact .inl h'
    · exact .inr ⟨g, cap, cur, h1, Nat.le_trans HZ.out h2, h3⟩
  have HB2 := Lib.hid (HBW.out.trans (hb.mono HZ.out))
  have HO2 := Lib.hid ho2
  clear ho hb ho2
  go_wp2_with fail
  go_ret2
  exact ⟨_, rfl, HO2.out, HB2.out⟩

/-- What RunLengths answers. -/
def rl (l : List UInt8) : List Int := if isB l = true then runsK l l.length else []
theorem rl_len (l : List UInt8) : (rl l).length ≤ 400 := by
  unfold rl
  split
  · rename_i h
    unfold isB at h
    have h2 := of_decide_eq_true (Bool.and_eq_true_iff.1 h).1
    have := runsK_le l l.length
    omega
  · simp
theorem isB_len {s : ByteArray} (h : isB s.data.toList = true) : s.size ≤ 400 := by
  unfold isB at h
  have h2 := of_decide_eq_true (Bool.and_eq_true_iff.1 h).1
  simpa using h2

theorem runLengths_spec (s : ByteArray) (w : World) (hs : s.size ≤ maxLen) :
    Calls Try.prog 30 #[.string s] w fun e w' => ∃ v, e = .returned (.tuple #[v, .bool (isB s.data.toList)]) ∧ Own w' w.heap.size v (rl s.data.toList) ∧ Below w.heap.size w w' := by
  have HS := Lib.hid hs
  clear hs
  cases hB : isB s.data.toList
  · have HR : Hid (rl s.data.toList = []) := by show _ = _; unfold rl; rw [if_neg (by rw [hB]; decide)]
    go_enter Try.func30, Try.ntmps30
    go_wp2_with fail
    refine (l01Bits_any _ _ HS.out).mono ?_; rintro e w' ⟨rfl, rfl⟩
    go_wp2_with fail
    go_ret2
    exact ⟨_, rfl, by rw [HR.out]; exact World.ownsRow_nil _ _ _ _, Below.refl _ _⟩
  · have HL := Lib.hid (isB_len hB)
    have HR : Hid (rl s.data.toList = runsK s.data.toList s.size) := by show _ = _; unfold rl; rw [if_pos hB]; rfl
    go_enter Try.func30, Try.ntmps30
    go_wp2_with fail
    refine (l01Bits_any _ _ HS.out).mono ?_; rintro e w' ⟨rfl, rfl⟩
    go_wp2_with fail
    refine (l01Runs_any _ _ HL.out).mono ?_; rintro e w' ⟨v, rfl, hown, hb⟩
    go_wp2_with fail
    go_ret2
    exact ⟨_, rfl, by rw [HR.out]; exact hown, hb⟩

theorem runLengths_impl (s : ByteArray) (w : World) (hs : s.size ≤ maxLen) :
    Calls Try.prog 31 #[.string s] w fun e w' => ∃ v, e = .returned (.tuple #[v, .bool (isB s.data.toList)]) ∧ Own w' w.heap.size v (rl s.data.toList) ∧ Below w.heap.size w w' := by
  have HS := Lib.hid hs
  clear hs
  cases hB : isB s.data.toList
  · have HR : Hid (rl s.data.toList = []) := by show _ = _; unfold rl; rw [if_neg (by rw [hB]; decide)]
    go_enter Try.func31, Try.ntmps31
    go_wp2_with fail
    refine (isBits_any _ _ HS.out).mono ?_; rintro e w' ⟨rfl, hb⟩
    go_wp2_with fail
    go_ret2
    exact ⟨_, rfl, by rw [HR.out]; exact World.ownsRow_nil _ _ _ _, hb⟩
  · have HR : Hid (rl s.data.toList = runsK s.data.toList s.size) := by show _ = _; unfold rl; rw [if_pos hB]; rfl
    exact (runLengths_yes_impl s w (isB_len hB) hB).mono fun e w' ⟨v, h1, h2, h3⟩ => ⟨v, h1, by rw [HR.out]; exact h2, h3⟩

set_option maxRecDepth 100000 in
theorem law_FnExactRunLengths (s : ByteArray) (hs : s.size ≤ maxLen) (w : World) :
    Calls Try.prog 8 #[.string s] w fun e w' => e = .returned (.bool true) ∧ Below w.heap.size w w' := by
  have HS := Lib.hid hs
  unfold maxLen at hs
  by_cases hl : s.size ≤ 1048576
  · have hlen := rl_len s.data.toList
    cases hB : isB s.data.toList
    all_goals
      have HB := Lib.hid hB
      clear hB
      generalize hrl : rl s.data.toList = R at hlen
      have HR := Lib.hid hrl
      clear hrl
      have hR1 : ¬ (1 : Int) + (R.length : Int) < 0 := by omega
      have hR2 : ((1 : Int) + (R.length : Int) != (1 : Int) + (R.length : Int)) = false := by simp
      go_enter Try.func8, Try.ntmps8
      go_wp2_with fail
      refine (runLengths_spec _ _ HS.out).mono ?_; rintro e w1 ⟨v0, rfl, ho0, hb1⟩
      rw [HB.out]; rw [HR.out] at ho0
      go_wp2_with fail
      refine (runLengths_impl _ _ HS.out).mono ?_; rintro e w2 ⟨v1, rfl, ho1, hb2⟩
      rw [HB.out]; rw [HR.out] at ho1
      have ho02 : Own w2 w.heap.size v0 R := own_below ho0 hb2
      have HB2 := Lib.hid (hb1.trans (hb2.mono hb1.size))
      have hlt0 : ∀ k, v0.ownBlock = some k → k < w1.heap.size := fun k hk => (World.ownsRow.lt ho0 k hk).2
      have HLT0 := Lib.hid hlt0
      have HSZ := Lib.hid hb1.size
      have HSZ2 := Lib.hid (Nat.le_trans hb1.size hb2.size)
      clear hb1 hb2 ho0 hlt0
      go_wp2_with fail
      refine (eqInt64S_yes _ _ _ _ _ R ho1 ho02).mono ?_; rintro e w' ⟨rfl, q, rfl⟩
      go_wp2_with fail
      refine (markInt64S_any (w2.drewN q) _ _ R 1 (by omega) (by omega) (by omega) ho1).mono ?_; rintro e w3 ⟨rfl, hm1, hg, hsz3⟩
      have ho03 : Own w3 w.heap.size v0 R := own_kept (own_drewN ho02 q) HLT0.out hg (fun k hk => (World.ownsRow.lt ho1 k hk).1)
      have HB3 := Lib.hid (below_mark (below_drewN HB2.out q) HSZ.out HSZ2.out (own_drewN ho1 q) hg)
      clear hg ho02 ho1
      go_wp2_with fail
      refine (heldInt64S_any _ _ _ R.length 1 (by omega) (by omega) (by omega) hm1).mono ?_; rintro e w' ⟨rfl, rfl⟩
      go_wp2_with fail
      refine (runLengths_impl _ _ HS.out).mono ?_; rintro e w4 ⟨v2, rfl, ho2, hb4⟩
      rw [HB.out]; rw [HR.out] at ho2
      have ho04 : Own w4 w.heap.size v0 R := own_below ho03 hb4
      have hm4 : Own w4 _ v1 (marks 1 R.length) := own_below hm1 hb4
      have HB4 := Lib.hid (HB3.out.trans (hb4.mono (by have h1 := HSZ2.out; have h2 := hsz3; simp at h2; omega)))
      clear hb4 ho03 hm1 hsz3
      go_wp2_with fail
      refine (eqInt64S_yes _ _ _ _ _ R ho2 ho04).mono ?_; rintro e w' ⟨rfl, q2, rfl⟩
      go_wp2_with fail
      refine (heldInt64S_any _ _ _ R.length 1 (by omega) (by omega) (by omega) (own_drewN hm4 q2)).mono ?_; rintro e w' ⟨rfl, rfl⟩
      go_wp2_with fail
      go_ret
      exact ⟨rfl, below_drewN HB4.out _⟩
  · go_enter Try.func8, Try.ntmps8
    go_wp2_with fail
    go_ret
    exact ⟨rfl, Below.refl _ _⟩
end Go.Proofs.Ytmhdjimdhcephab
