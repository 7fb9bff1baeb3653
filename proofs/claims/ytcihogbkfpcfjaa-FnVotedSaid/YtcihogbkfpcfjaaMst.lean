/- The program's mostOf: the bit that most of a block are. -/
import Derived.Test.YtcihogbkfpcfjaaVom
import Derived.Test.YtcihogbkfpcfjaaCvb
import Derived.Shelf.Bytes.SlCountOne
namespace Go.Proofs.Ytcihogbkfpcfjaa
open Go Go.RowKit
set_option linter.unusedVariables false

theorem mst_shape (w : World) (v : Value) (e : TypeId) : (w.alloc (.cells #[v] e)).shape? w.heap.size = some (e, 1) := by
  have : (w.alloc (.cells #[v] e)).heap[w.heap.size]? = some (.cells #[v] e) := by
    show (w.heap.push (.cells #[v] e))[w.heap.size]? = _
    simp
  unfold World.shape?
  rw [this]; rfl
theorem mst_freeze (w : World) (v : Value) (e : TypeId) : (w.alloc (.cells #[v] e)).freeze ⟨w.heap.size, 1, none⟩ 1 = w.alloc (.cells #[v] e (1, 2)) := by
  have hm : ∀ (a : Array Obj) (x : Obj) (f : Obj → Obj), (a.push x).modify a.size f = a.push (f x) := by
    intro a x f
    apply Array.ext
    · simp
    · intro i h1 h2
      rw [Array.getElem_modify, Array.getElem_push, Array.getElem_push]
      by_cases h : i < a.size
      · have : ¬ a.size = i := by omega
        simp [h, this]
      · have : a.size = i := by simp at h1; omega
        simp [this]
  unfold World.freeze World.alloc
  rw [if_neg (by decide)]
  simp only [hm]
  rfl
theorem mst_conv (w : World) (v : Value) : (convert 37 37 (.slice (some ⟨w.heap.size, 0, none⟩) 1 1)).run Try.prog (w.alloc (.cells #[v] 5)) = .ok (.slice (some ⟨w.heap.size, 0, none⟩) 1 1) (w.alloc (.cells #[v] 5 (1, 2))) := by
  have h : (markStringish ⟨w.heap.size, 0, none⟩).run Try.prog (w.alloc (.cells #[v] 5)) = .ok () (w.alloc (.cells #[v] 5 (1, 2))) := by
    unfold markStringish
    simp [go_sem, mst_shape, mst_freeze]
  simp [convert, go_sem, h]
theorem add_blk (a : Addr) (i : Nat) : (a.add i).block = a.block := by unfold Addr.add; first | rfl | (split <;> rfl)
/-- A block as numbers. -/
def numL (l : List UInt8) : List Int := l.map fun c => (c.toNat : Int)
theorem numL_bytes (l : List UInt8) : Lib.bytesOf (numL l) = l := by
  unfold Lib.bytesOf numL
  rw [List.map_map]
  conv => rhs; rw [← List.map_id l]
  apply List.map_congr_left
  intro c _
  simp
set_option maxHeartbeats 2000000 in
set_option maxRecDepth 100000 in
theorem count_one (a : Addr) (n c b2 d : Nat) (l : List UInt8) (w : World) (hx : l.length = n) (hc : ∀ i, i < n → w.cell? (a.add i) = some (.int .u8 ((numL l).getD i 0))) (hc2 : w.cell? ⟨b2, 0, none⟩ = some (.int .u8 49)) :
    Calls Try.prog 85 #[.slice (some a) n c, .slice (some ⟨b2, 0, none⟩) 1 d] w fun e w' => e = .returned (.int .i64 (onesL l)) ∧ w = w' := by
  have HC := Lib.hid (Lib.run_countAt (P := Try.prog) w a n c (numL l) (by rw [numL, List.length_map]; exact hx) hc 49)
  clear hc
  go_enter Try.func85, Try.ntmps85
  go_wp2
  rw [run_callFunc_extern Try.func95 (by kernel_rfl) (by kernel_rfl) (by kernel_rfl) (e := Extern.BytealgCount.count) (by kernel_rfl), HC.out]
  simp only [Result.andThen]
  rw [Oper.upon_value]
  go_wp2
  go_ret
  exact ⟨ret_int (by rw [numL_bytes]; rfl), rfl⟩

set_option maxHeartbeats 2000000 in
set_option maxRecDepth 100000 in
theorem mostOf_any (a : Addr) (n c : Nat) (l : List UInt8) (w : World) (hx : l.length = n) (hn : n ≤ 15) (hc : ∀ i, i < n → w.cell? (a.add i) = some (.int .u8 ((numL l).getD i 0))) (ha : a.block < w.heap.size) :
    Calls Try.prog 69 #[.slice (some a) n c] w fun e w' => e = .returned (.int .u8 ((vtC l n).toNat : Int)) ∧ Below w.heap.size w w' := by
  have HV : Hid (((vtC l n).toNat : Int) = if (n : Int) < 2 * onesL l then 49 else 48) := by
    show _ = _
    unfold vtC
    split <;> rfl
  obtain ⟨q0, q1⟩ := onesL_bd l
  obtain ⟨W1, hW1⟩ : ∃ W1, W1 = w.alloc (.cells #[.int .u8 49] 5 (1, 2)) := ⟨_, rfl⟩
  have hB : Below w.heap.size w W1 := by rw [hW1]; exact (Below.refl _ _).alloc (Nat.le_refl _) _
  have hcell : W1.cell? ⟨w.heap.size, 0, none⟩ = some (.int .u8 49) := by
    rw [hW1]
    unfold World.cell?
    have : (w.alloc (.cells #[.int .u8 49] 5 (1, 2))).heap[w.heap.size]? = some (.cells #[.int .u8 49] 5 (1, 2)) := by
      show (w.heap.push _)[w.heap.size]? = _
      simp
    rw [this]; rfl
  have hcv := mst_conv w (.int .u8 49)
  rw [← hW1] at hcv
  have hkc : ∀ i, i < n → W1.cell? (a.add i) = some (.int .u8 ((numL l).getD i 0)) := fun i hi => (hB.cell (p := a.add i) (by rw [add_blk]; exact ha)).trans (hc i hi)
  have HC := Lib.hid (count_one a n c w.heap.size 1 l W1 hx hkc hcell)
  have w1 : IntKind.i64.wrap (2 * onesL l) = 2 * onesL l := IntWalk.i64_in _ (by omega)
  have HB := Lib.hid hB
  clear hW1 hB hcell hkc hc ha
  generalize vtC l n = V at *
  generalize onesL l = Q at *
  by_cases hq : (n : Int) < 2 * Q
  all_goals go_enter Try.func69, Try.ntmps69
  all_goals go_wp2_with fail
  all_goals (refine HC.out.mono ?_; rintro e w' ⟨rfl, rfl⟩)
  all_goals go_wp2_with fail
  all_goals go_ret
  · exact ⟨by rw [HV.out, if_pos hq]; rfl, HB.out⟩
  · exact ⟨by rw [HV.out, if_neg (by omega)]; rfl, HB.out⟩
end Go.Proofs.Ytcihogbkfpcfjaa
