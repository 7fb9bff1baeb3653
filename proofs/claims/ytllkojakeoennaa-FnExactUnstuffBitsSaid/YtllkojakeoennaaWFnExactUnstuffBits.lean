/- The walk of the law FnExactUnstuffBits. -/
import Derived.Test.YtllkojakeoennaaUni
import Derived.Test.YtllkojakeoennaaStf
namespace Go.Proofs.Ytllkojakeoennaa
open Go Go.RowKit
set_option linter.unusedVariables false

set_option maxHeartbeats 1600000 in
set_option maxRecDepth 100000 in
theorem law_FnExactUnstuffBits (a0 : Int) (w0 : (Lit.int .i64 a0).wf = true) (b0 : Int) (u0 : (Lit.int .i64 b0).wf = true) (a1 : ByteArray) (w1 : a1.size ≤ maxLen) (w : World)  :
    Calls Try.prog 5 #[.agg #[.int .i64 a0, .int .i64 b0], .string a1] w fun e w' => e = .returned (.bool true) ∧ Below w.heap.size w w' := by
  obtain ⟨W0, hW0⟩ : ∃ W0, W0 = w.alloc (.cells #[.int .i64 a0, .int .i64 b0] 23) := ⟨_, rfl⟩
  have HW := Lib.hid hW0
  have HBB : Hid (Below w.heap.size w W0) := by show Below _ _ _; rw [hW0]; exact (Below.refl _ _).alloc (Nat.le_refl _) _
  have HO0 : Hid (Bk W0 w.heap.size [.int .i64 a0, .int .i64 b0]) := by show Bk _ _ _; rw [hW0]; exact Bk.new w [.int .i64 a0, .int .i64 b0] _ _ rfl
  clear hW0
  have s1 : a1.size ≤ 9223372036854775807 := by have := w1; unfold maxLen at this; exact this
  by_cases h1 : a1.size ≤ 1048576
  rotate_left
  · clear w0 u0 w1
    go_enter Try.func5, Try.ntmps5
    go_wp2_with fail
    go_ret
    exact ⟨rfl, (Below.refl _ _).alloc (Nat.le_refl _) _⟩
  have HS := Lib.hid (fun (W : World) => unstuffBits_spec W a0 b0 a1 w1)
  have HI := Lib.hid (fun (W : World) => unstuffBits_impl W a0 b0 a1 w1)
  clear w0 u0 w1
  generalize hz0 : usV a0 b0 a1.data.toList = y0 at HS HI
  clear hz0
  generalize hz1 : usOk a0 b0 a1.data.toList = y1 at HS HI
  clear hz1
  cases y1
  all_goals
    go_enter Try.func5, Try.ntmps5
    have B0 := Lib.hid (Below.refl W0.heap.size W0)
    obtain ⟨qs0, qs1⟩ := bk_two (HO0.out.keep B0.out)
    go_wp2_with fail
    rw [← HW.out]
    refine (toStuffer_any _ _ _).mono ?_; rintro e u1 ⟨rfl, hb1⟩
    have B1 := Lib.hid (B0.out.trans (hb1.mono B0.out.size))
    clear hb1  B0
    clear qs0 qs1
    go_wp2_with fail
    refine (HS.out _).mono ?_; rintro e u2 ⟨rfl, hb2⟩
    have B2 := Lib.hid (B1.out.trans (hb2.mono B1.out.size))
    clear hb2  B1
    obtain ⟨qs0, qs1⟩ := bk_two (HO0.out.keep B2.out)
    go_wp2_with fail
    refine (toStuffer_any _ _ _).mono ?_; rintro e u3 ⟨rfl, hb3⟩
    have B3 := Lib.hid (B2.out.trans (hb3.mono B2.out.size))
    clear hb3  B2
    clear qs0 qs1
    go_wp2_with fail
    refine (HI.out _).mono ?_; rintro e u4 ⟨rfl, hb4⟩
    have B4 := Lib.hid (B3.out.trans (hb4.mono B3.out.size))
    clear hb4  B3
    go_wp2_with fail
    go_ret
    exact ⟨rfl, HBB.out.trans (B4.out.mono HBB.out.size)⟩
end Go.Proofs.Ytllkojakeoennaa
