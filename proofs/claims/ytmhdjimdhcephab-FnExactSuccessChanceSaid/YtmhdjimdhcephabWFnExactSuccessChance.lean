/- The walk of the law FnExactSuccessChance. -/
import Derived.Test.YtmhdjimdhcephabQcS
namespace Go.Proofs.Ytmhdjimdhcephab
open Go Go.RowKit
set_option linter.unusedVariables false

set_option maxHeartbeats 1600000 in
set_option maxRecDepth 100000 in
theorem law_FnExactSuccessChance (a0 : Int) (w0 : (Lit.int .i64 a0).wf = true) (a1 : Int) (w1 : (Lit.int .i64 a1).wf = true) (b1 : Int) (u1 : (Lit.int .i64 b1).wf = true) (w : World)  :
    Calls Try.prog 4 #[.int .i64 a0, .agg #[.int .i64 a1, .int .i64 b1]] w fun e w' => e = .returned (.bool true) ∧ Below w.heap.size w w' := by
  obtain ⟨W0, hW0⟩ : ∃ W0, W0 = w.alloc (.cells #[.int .i64 a1, .int .i64 b1] 23) := ⟨_, rfl⟩
  have HW := Lib.hid hW0
  have HBB : Hid (Below w.heap.size w W0) := by show Below _ _ _; rw [hW0]; exact (Below.refl _ _).alloc (Nat.le_refl _) _
  have HO1 : Hid (Bk W0 w.heap.size [.int .i64 a1, .int .i64 b1]) := by show Bk _ _ _; rw [hW0]; exact Bk.new w [.int .i64 a1, .int .i64 b1] _ _ rfl
  clear hW0
  have HS := Lib.hid (fun (W : World) => success_spec a0 a1 b1 W)
  have HI := Lib.hid (fun (W : World) => success_impl a0 a1 b1 W (i64_bdd w1).1 (i64_bdd w1).2)
  clear w0 w1 u1
  generalize hz0n : (scS a0 a1 b1).1 = y0n at HS HI
  clear hz0n
  generalize hz0d : (scS a0 a1 b1).2.1 = y0d at HS HI
  clear hz0d
  generalize hz1 : (scS a0 a1 b1).2.2 = y1 at HS HI
  clear hz1
  cases y1
  all_goals
    go_enter Try.func4, Try.ntmps4
    have B0 := Lib.hid (Below.refl W0.heap.size W0)
    obtain ⟨qs0, qs1⟩ := bk_twoP (HO1.out.keep B0.out)
    go_wp2_with fail
    rw [← HW.out]
    refine (toFraction_any _ _ _).mono ?_; rintro e u1 ⟨rfl, hb1⟩
    have B1 := Lib.hid (B0.out.trans (hb1.mono B0.out.size))
    clear hb1  B0
    clear qs0 qs1
    go_wp2_with fail
    refine (HS.out _).mono ?_; rintro e u2 ⟨rfl, hb2⟩
    have B2 := Lib.hid (B1.out.trans (hb2.mono B1.out.size))
    clear hb2  B1
    obtain ⟨V2, hV2⟩ : ∃ V, V = u2.alloc (.cells #[.int .i64 y0n, .int .i64 y0d] 24) := ⟨_, rfl⟩
    have kb2 : Below u2.heap.size u2 V2 := by rw [hV2]; exact (Below.refl _ _).alloc (Nat.le_refl _) _
    have bx2 : Bk V2 u2.heap.size [.int .i64 y0n, .int .i64 y0d] := by rw [hV2]; exact Bk.new u2 [.int .i64 y0n, .int .i64 y0d] _ _ rfl
    have B3 := Lib.hid (B2.out.trans (kb2.mono B2.out.size))
    have fFS0_3 := Lib.hid bx2
    have HV2 := Lib.hid hV2
    clear kb2 bx2 hV2 B2
    obtain ⟨qs0, qs1⟩ := bk_twoP (HO1.out.keep B3.out)
    rw [HV2.out] at qs0 qs1
    go_wp2_with fail
    rw [← HV2.out]
    refine (toFraction_any _ _ _).mono ?_; rintro e u4 ⟨rfl, hb4⟩
    have fFS0_4 := Lib.hid (fFS0_3.out.keep hb4)
    have B4 := Lib.hid (B3.out.trans (hb4.mono B3.out.size))
    clear hb4  fFS0_3 B3
    clear qs0 qs1
    go_wp2_with fail
    refine (HI.out _).mono ?_; rintro e u5 ⟨rfl, hb5⟩
    have fFS0_5 := Lib.hid (fFS0_4.out.keep hb5)
    have B5 := Lib.hid (B4.out.trans (hb5.mono B4.out.size))
    clear hb5  fFS0_4 B4
    obtain ⟨V5, hV5⟩ : ∃ V, V = u5.alloc (.cells #[.int .i64 y0n, .int .i64 y0d] 24) := ⟨_, rfl⟩
    have kb5 : Below u5.heap.size u5 V5 := by rw [hV5]; exact (Below.refl _ _).alloc (Nat.le_refl _) _
    have bx5 : Bk V5 u5.heap.size [.int .i64 y0n, .int .i64 y0d] := by rw [hV5]; exact Bk.new u5 [.int .i64 y0n, .int .i64 y0d] _ _ rfl
    have fFS0_6 := Lib.hid (fFS0_5.out.keep kb5)
    have B6 := Lib.hid (B5.out.trans (kb5.mono B5.out.size))
    have fFG0_6 := Lib.hid bx5
    have HV5 := Lib.hid hV5
    clear kb5 bx5 hV5 fFS0_5 B5
    obtain ⟨qg0, qg1⟩ := bk_twoP fFG0_6.out
    obtain ⟨qf0, qf1⟩ := bk_twoP fFS0_6.out
    rw [HV5.out] at qg0 qg1 qf0 qf1
    go_wp2_with fail
    rw [← HV5.out]
    refine (eqFraction_yes _ _ _).mono ?_; rintro e u7 ⟨rfl, hb7⟩
    have fFS0_7 := Lib.hid (fFS0_6.out.keep hb7)
    have fFG0_7 := Lib.hid (fFG0_6.out.keep hb7)
    have B7 := Lib.hid (B6.out.trans (hb7.mono B6.out.size))
    clear hb7  fFS0_6 fFG0_6 B6
    clear qg0 qg1 qf0 qf1
    go_wp2_with fail
    go_ret
    exact ⟨rfl, HBB.out.trans (B7.out.mono HBB.out.size)⟩
end Go.Proofs.Ytmhdjimdhcephab
