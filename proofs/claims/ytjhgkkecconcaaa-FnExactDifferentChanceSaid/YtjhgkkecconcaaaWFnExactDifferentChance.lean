/- The walk of the law FnExactDifferentChance. -/
import Derived.Test.YtjhgkkecconcaaaDfS
namespace Go.Proofs.Ytjhgkkecconcaaa
open Go Go.RowKit
set_option linter.unusedVariables false

set_option maxHeartbeats 1600000 in
set_option maxRecDepth 100000 in
theorem law_FnExactDifferentChance (a0 : Int) (w0 : (Lit.int .i64 a0).wf = true) (a1 : Int) (w1 : (Lit.int .i64 a1).wf = true) (w : World)  :
    Calls Try.prog 9 #[.int .i64 a0, .int .i64 a1] w fun e w' => e = .returned (.bool true) ∧ Below w.heap.size w w' := by
  have HS := Lib.hid (fun (W : World) => different_spec a0 a1 W)
  have HI := Lib.hid (fun (W : World) => different_impl a0 a1 W)
  clear w0 w1
  generalize hz0n : dcN a0 a1 = y0n at HS HI
  clear hz0n
  generalize hz0d : dcD a0 a1 = y0d at HS HI
  clear hz0d
  generalize hz1 : dcK a0 a1 = y1 at HS HI
  clear hz1
  cases y1
  all_goals
    go_enter Try.func9, Try.ntmps9
    have B0 := Lib.hid (Below.refl w.heap.size w)
    go_wp2_with fail
    refine (HS.out _).mono ?_; rintro e u1 ⟨rfl, hb1⟩
    have B1 := Lib.hid (B0.out.trans (hb1.mono B0.out.size))
    clear hb1  B0
    obtain ⟨V1, hV1⟩ : ∃ V, V = u1.alloc (.cells #[.int .i64 y0n, .int .i64 y0d] 24) := ⟨_, rfl⟩
    have kb1 : Below u1.heap.size u1 V1 := by rw [hV1]; exact (Below.refl _ _).alloc (Nat.le_refl _) _
    have bx1 : Bk V1 u1.heap.size [.int .i64 y0n, .int .i64 y0d] := by rw [hV1]; exact Bk.new u1 [.int .i64 y0n, .int .i64 y0d] _ _ rfl
    have B2 := Lib.hid (B1.out.trans (kb1.mono B1.out.size))
    have fFS0_2 := Lib.hid bx1
    have HV1 := Lib.hid hV1
    clear kb1 bx1 hV1 B1
    go_wp2_with fail
    rw [← HV1.out]
    refine (HI.out _).mono ?_; rintro e u3 ⟨rfl, hb3⟩
    have fFS0_3 := Lib.hid (fFS0_2.out.keep hb3)
    have B3 := Lib.hid (B2.out.trans (hb3.mono B2.out.size))
    clear hb3  fFS0_2 B2
    obtain ⟨V3, hV3⟩ : ∃ V, V = u3.alloc (.cells #[.int .i64 y0n, .int .i64 y0d] 24) := ⟨_, rfl⟩
    have kb3 : Below u3.heap.size u3 V3 := by rw [hV3]; exact (Below.refl _ _).alloc (Nat.le_refl _) _
    have bx3 : Bk V3 u3.heap.size [.int .i64 y0n, .int .i64 y0d] := by rw [hV3]; exact Bk.new u3 [.int .i64 y0n, .int .i64 y0d] _ _ rfl
    have fFS0_4 := Lib.hid (fFS0_3.out.keep kb3)
    have B4 := Lib.hid (B3.out.trans (kb3.mono B3.out.size))
    have fFG0_4 := Lib.hid bx3
    have HV3 := Lib.hid hV3
    clear kb3 bx3 hV3 fFS0_3 B3
    obtain ⟨qg0, qg1⟩ := bk_twoP fFG0_4.out
    obtain ⟨qf0, qf1⟩ := bk_twoP fFS0_4.out
    rw [HV3.out] at qg0 qg1 qf0 qf1
    go_wp2_with fail
    rw [← HV3.out]
    refine (eqFraction_yes _ _ _).mono ?_; rintro e u5 ⟨rfl, hb5⟩
    have fFS0_5 := Lib.hid (fFS0_4.out.keep hb5)
    have fFG0_5 := Lib.hid (fFG0_4.out.keep hb5)
    have B5 := Lib.hid (B4.out.trans (hb5.mono B4.out.size))
    clear hb5  fFS0_4 fFG0_4 B4
    clear qg0 qg1 qf0 qf1
    go_wp2_with fail
    go_ret
    exact ⟨rfl, B5.out⟩
end Go.Proofs.Ytjhgkkecconcaaa
