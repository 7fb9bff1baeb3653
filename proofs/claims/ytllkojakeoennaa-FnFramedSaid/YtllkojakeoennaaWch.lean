/- A watch of runs: isFullBehind. -/
import Derived.Test.YtllkojakeoennaaBwb
import Derived.Test.YtllkojakeoennaaFlg
import Derived.BigRegion
namespace Go.Proofs.Ytllkojakeoennaa
open Go Go.RowKit
set_option linter.unusedVariables false

theorem gb_below {w w1 : World} (row : Option Nat) (hb : Below w.heap.size w w1) : w.grownBy w1 row := ⟨hb.os, hb.tape, hb.output, hb.size, fun k hk _ => hb.block k hk⟩
theorem gb_set {w w1 : World} {b : Nat} (h : w.grownBy w1 (some b)) (j : Nat) (x : Value) : w.grownBy (w1.setCell ⟨b, j, none⟩ x) (some b) :=
  ⟨h.os, h.tape, h.output, by have := h.size; simp [World.setCell]; exact this, fun k hk hne => (Below.heap_setCell _ _ _ _ (by intro e; exact hne (by rw [e]))).trans (h.block k hk hne)⟩
theorem gb_drew {w w1 : World} {row : Option Nat} (h : w.grownBy w1 row) : w.grownBy w1.drew row := ⟨h.os, h.tape, h.output, h.size, h.block⟩
/-- The cells of a watch. -/
def wV (n : Nat) (b : Int) (r : Nat) : List Value := [.int .i64 n, .int .i64 b, .int .i64 r]
theorem wv_all {W : World} {k n r : Nat} {b : Int} (h : Blk W k 68 (wV n b r)) : W.cell? ⟨k, 0, none⟩ = some (.int .i64 n) ∧ W.cell? ⟨k, 1, none⟩ = some (.int .i64 b) ∧ W.cell? ⟨k, 2, none⟩ = some (.int .i64 r) ∧ W.frozen? ⟨k, 2, none⟩ = false :=
  ⟨h.cell 0 _ rfl, h.cell 1 _ rfl, h.cell 2 _ rfl, h.frozen 2⟩
theorem wv_set {W : World} {k n r : Nat} {b : Int} (h : Blk W k 68 (wV n b r)) (r' : Nat) : Blk (W.setCell ⟨k, 2, none⟩ (.int .i64 r')) k 68 (wV n b r') := h.set 2 _

set_option maxHeartbeats 1000000 in
set_option maxRecDepth 100000 in
theorem full_other (w : World) (k n r : Nat) (b : Int) (d o : UInt8) (x : Int) (hd : Dg b d o) (hn : n ≤ 10) (hr : r < n) (hx : x ≠ (d.toNat : Int)) (h : Blk w k 68 (wV n b r)) :
    Calls Try.prog 53 #[.pointer (some ⟨k, 0, none⟩), .int .u8 x] w fun e w' => e = .returned (.bool false) ∧ Blk w' k 68 (wV n b 0) ∧ w.grownBy w' (some k) := by
  obtain ⟨D, hD⟩ : ∃ D : Int, (d.toNat : Int) = D := ⟨_, rfl⟩
  have HD := Lib.hid (fun W => digit_any n b d o hd D hD W)
  have HO := Lib.hid h
  obtain ⟨q0, q1, q2, f2⟩ := wv_all h
  clear h
  have hne : (x != D) = true := bne_t (by rw [← hD]; exact hx)
  go_enter Try.func53, Try.ntmps53
  go_wp2_with fail
  refine (HD.out _).mono ?_; rintro e w1 ⟨rfl, hb1⟩
  have K1 := Lib.hid (HO.out.keep hb1)
  have G1 := Lib.hid (gb_below (some k) hb1)
  clear hb1 q0 q1 q2 f2
  obtain ⟨q0, q1, q2, f2⟩ := wv_all K1.out
  go_wp2_with fail
  go_ret
  exact ⟨rfl, wv_set K1.out 0, gb_set G1.out 2 _⟩
set_option maxHeartbeats 1000000 in
set_option maxRecDepth 100000 in
theorem full_digit (w : World) (k n r : Nat) (b : Int) (d o : UInt8) (x : Int) (hd : Dg b d o) (hn : n ≤ 10) (hr : r < n) (hx : x = (d.toNat : Int)) (hf : ¬ r + 1 = n) (h : Blk w k 68 (wV n b r)) :
    Calls Try.prog 53 #[.pointer (some ⟨k, 0, none⟩), .int .u8 x] w fun e w' => e = .returned (.bool false) ∧ Blk w' k 68 (wV n b (r + 1)) ∧ w.grownBy w' (some k) := by
  obtain ⟨D, hD⟩ : ∃ D : Int, (d.toNat : Int) = D := ⟨_, rfl⟩
  have HD := Lib.hid (fun W => digit_any n b d o hd D hD W)
  have HO := Lib.hid h
  obtain ⟨q0, q1, q2, f2⟩ := wv_all h
  clear h
  obtain rfl : x = D := by rw [← hD]; exact hx
  clear hx hD
  have hne : (x != x) = false := by simp
  have wr : IntKind.i64.wrap ((r : Int) + 1) = (r : Int) + 1 := IntWalk.i64_in _ (by omega)
  have hr9 : r < 10 := by omega
  have hlt : (r : Int) + 1 < (n : Int) := by omega
  go_enter Try.func53, Try.ntmps53
  go_wp2_with fail
  refine (HD.out _).mono ?_; rintro e w1 ⟨rfl, hb1⟩
  have K1 := Lib.hid (HO.out.keep hb1)
  have G1 := Lib.hid (gb_below (some k) hb1)
  clear hb1 q0 q1 q2 f2
  obtain ⟨q0, q1, q2, f2⟩ := wv_all K1.out
  have K2 := Lib.hid (wv_set K1.out (r + 1))
  have G2 := Lib.hid (gb_set G1.out 2 (.int .i64 ((r + 1 : Nat) : Int)))
  obtain ⟨p0, p1, p2, g2⟩ := wv_all K2.out
  rw [Int.natCast_add, Int.natCast_one] at p0 p1 p2 g2
  go_wp2_with fail
  go_region
  go_wp2_with fail
  go_ret
  exact ⟨rfl, K2.out.drew, gb_drew G2.out⟩
set_option maxHeartbeats 1000000 in
set_option maxRecDepth 100000 in
theorem full_full (w : World) (k n r : Nat) (b : Int) (d o : UInt8) (x : Int) (hd : Dg b d o) (hn : n ≤ 10) (hr : r < n) (hx : x = (d.toNat : Int)) (hf : r + 1 = n) (h : Blk w k 68 (wV n b r)) :
    Calls Try.prog 53 #[.pointer (some ⟨k, 0, none⟩), .int .u8 x] w fun e w' => e = .returned (.bool true) ∧ Blk w' k 68 (wV n b 0) ∧ w.grownBy w' (some k) := by
  obtain ⟨D, hD⟩ : ∃ D : Int, (d.toNat : Int) = D := ⟨_, rfl⟩
  have HD := Lib.hid (fun W => digit_any n b d o hd D hD W)
  have HO := Lib.hid h
  obtain ⟨q0, q1, q2, f2⟩ := wv_all h
  clear h
  obtain rfl : x = D := by rw [← hD]; exact hx
  clear hx hD
  have hne : (x != x) = false := by simp
  have wr : IntKind.i64.wrap ((r : Int) + 1) = (r : Int) + 1 := IntWalk.i64_in _ (by omega)
  have hr9 : r < 10 := by omega
  have hlt : ¬ (r : Int) + 1 < (n : Int) := by omega
  go_enter Try.func53, Try.ntmps53
  go_wp2_with fail
  refine (HD.out _).mono ?_; rintro e w1 ⟨rfl, hb1⟩
  have K1 := Lib.hid (HO.out.keep hb1)
  have G1 := Lib.hid (gb_below (some k) hb1)
  clear hb1 q0 q1 q2 f2
  obtain ⟨q0, q1, q2, f2⟩ := wv_all K1.out
  have K2 := Lib.hid (wv_set K1.out (r + 1))
  have G2 := Lib.hid (gb_set G1.out 2 (.int .i64 ((r + 1 : Nat) : Int)))
  obtain ⟨p0, p1, p2, g2⟩ := wv_all K2.out
  rw [Int.natCast_add, Int.natCast_one] at p0 p1 p2 g2
  go_wp2_with fail
  go_region
  go_wp2_with fail
  go_ret
  exact ⟨rfl, wv_set K2.out.drew 0, gb_set (gb_drew G2.out) 2 _⟩
end Go.Proofs.Ytllkojakeoennaa
