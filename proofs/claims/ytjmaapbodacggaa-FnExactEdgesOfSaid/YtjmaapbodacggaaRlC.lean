/- Both RunLengths (the program by lengthsOfRuns), and the walk of their law. -/
import Derived.Test.YtjmaapbodacggaaRlB
import Derived.Test.YtjmaapbodacggaaCvb
namespace Go.Proofs.Ytjmaapbodacggaa
open Go Go.RowKit
set_option linter.unusedVariables false

/-- Bytes as numbers. -/
def u8I (l : List UInt8) : List Int := l.map fun b => (b.toNat : Int)
theorem u8I_at (l : List UInt8) (k : Nat) (h : k < l.length) : (u8I l).getD k 0 = (l[k].toNat : Int) := by
  unfold u8I
  rw [List.getD_eq_getElem?_getD, List.getElem?_map, List.getElem?_eq_getElem h]; rfl
theorem flK_runs (l : List UInt8) : ∀ k, k ≤ l.length → flK (u8I l) k = runsK l k := by
  intro k
  induction k with
  | zero => intro _; rfl
  | succ k ih =>
    intro hk
    have ih := ih (by omega)
    have he : ((u8I l).getD k 0 ≠ (u8I l).getD (k - 1) 0) ↔ (l[k]? ≠ l[k - 1]?) := by
      rw [u8I_at l k (by omega), u8I_at l (k - 1) (by omega), List.getElem?_eq_getElem (show k < l.length by omega), List.getElem?_eq_getElem (show k - 1 < l.length by omega)]
      constructor
      · intro h e; injection e with e; rw [e] at h; exact h rfl
      · intro h e
        apply h
        have : l[k].toNat = l[k - 1].toNat := by omega
        rw [UInt8.toNat_inj.1 this]
    by_cases hn : k = 0 ∨ l[k]? ≠ l[k - 1]?
    · rw [runsK_new l k hn, flK_new _ k (hn.imp id he.2), ih]
    · rw [runsK_old l k hn, flK_old _ k (fun h => hn (h.imp id he.1)), ih]

set_option maxRecDepth 100000 in
/-- impl.RunLengths of few bits: a new row with the lengths. -/
theorem runLengths_yes_impl (s : ByteArray) (w : World) (hs : s.size ≤ 400) (hB : isB s.data.toList = true) :
    Calls Try.prog 56 #[.string s] w fun e w' => ∃ v, e = .returned (.tuple #[v, .bool true]) ∧ Own w' w.heap.size v (runsK s.data.toList s.size) ∧ Below w.heap.size w w' := by
  have HSZ := Lib.hid hs
  have HB := Lib.hid hB
  clear hB
  go_enter Try.func56, Try.ntmps56
  go_wp2_with fail
  refine (isBits_any _ _ (by unfold maxLen; omega)).mono ?_; rintro e wi ⟨rfl, hbi⟩
  rw [HB.out]
  have hW1 := hbi.size
  have hcv := convB wi s
  have HR8 : Hid (R8 (wi.drew.alloc (.cells (rowB wi s) 5 (markB wi s))) (.slice (some ⟨wi.heap.size, 0, none⟩) s.size (capB wi s)) (u8I s.data.toList)) := by
    refine ⟨_, _, _, rfl, by simp [u8I], fun _ => ⟨wi.heap.size, 0, rfl, by simp, fun i hi => ?_⟩⟩
    have hi' : i < s.size := by simpa [u8I] using hi
    rw [Nat.zero_add]
    have := World.cell?_alloc_mark wi.drew (rowB wi s) 5 (markB wi s) i
    rw [show wi.drew.heap.size = wi.heap.size from rfl] at this
    rw [this, rowB_at wi s i hi']
    simp [u8I]
    rfl
  have HLE : Hid ((u8I s.data.toList).length ≤ 800) := by show _ ≤ _; have := HSZ.out; simp [u8I]; omega
  have HFL : Hid (flK (u8I s.data.toList) (u8I s.data.toList).length = runsK s.data.toList s.size) := by
    show _ = _
    rw [show (u8I s.data.toList).length = s.data.toList.length by simp [u8I], flK_runs _ _ (Nat.le_refl _)]
    simp
  have HBW : Hid (Below w.heap.size w (wi.drew.alloc (.cells (rowB wi s) 5 (markB wi s)))) := by show Below _ _ _; exact hbi.drew.alloc hW1 _
  have HC := Lib.hid (lengthsB_any _ _ _ HR8.out HLE.out)
  rw [HFL.out] at HC
  have HZ : Hid (w.heap.size ≤ (wi.drew.alloc (.cells (rowB wi s) 5 (markB wi s))).heap.size) := by show _ ≤ _; exact HBW.out.size
  clear hbi
  go_wp2_with fail
  refine HC.out.mono ?_; rintro e w2 ⟨u, rfl, ho, hb⟩
  have ho2 : Own w2 w.heap.size u (runsK s.data.toList s.size) := by
    refine ⟨ho.1, ?_⟩
    rcases ho.2 with h' | ⟨g, cap, cur, h1, h2, h3⟩
    · exact .inl h'
    · exact .inr ⟨g, cap, cur, h1, Nat.le_trans HZ.out h2, h3⟩
  have HB2 := Lib.hid (HBW.out.trans (hb.mono HZ.out))
  have HO2 := Lib.hid ho2
  clear ho hb ho2
  go_wp2_with fail
  go_ret2
  exact ⟨_, rfl, HO2.out, HB2.out⟩

/-- What RunLengths answers. -/
def rl (l : List UInt8) : List Int := if isB l = true then runsK l l.length else []
theorem rl_len (l : List UInt8) : (rl l).length ≤ 400 := by
  unfold rl
  split
  · rename_i h
    unfold isB at h
    have h2 := of_decide_eq_true (Bool.and_eq_true_iff.1 h).1
    have := runsK_le l l.length
    omega
  · simp
theorem isB_len {s : ByteArray} (h : isB s.data.toList = true) : s.size ≤ 400 := by
  unfold isB at h
  have h2 := of_decide_eq_true (Bool.and_eq_true_iff.1 h).1
  simpa using h2

theorem runLengths_impl (s : ByteArray) (w : World) (hs : s.size ≤ maxLen) :
    Calls Try.prog 56 #[.string s] w fun e w' => ∃ v, e = .returned (.tuple #[v, .bool (isB s.data.toList)]) ∧ Own w' w.heap.size v (rl s.data.toList) ∧ Below w.heap.size w w' := by
  have HS := Lib.hid hs
  clear hs
  cases hB : isB s.data.toList
  · have HR : Hid (rl s.data.toList = []) := by show _ = _; unfold rl; rw [if_neg (by rw [hB]; decide)]
    go_enter Try.func56, Try.ntmps56
    go_wp2_with fail
    refine (isBits_any _ _ HS.out).mono ?_; rintro e w' ⟨rfl, hb⟩
    go_wp2_with fail
    go_ret2
    exact ⟨_, rfl, by rw [HR.out]; exact World.ownsRow_nil _ _ _ _, hb⟩
  · have HR : Hid (rl s.data.toList = runsK s.data.toList s.size) := by show _ = _; unfold rl; rw [if_pos hB]; rfl
    exact (runLengths_yes_impl s w (isB_len hB) hB).mono fun e w' ⟨v, h1, h2, h3⟩ => ⟨v, h1, by rw [HR.out]; exact h2, h3⟩

end Go.Proofs.Ytjmaapbodacggaa
