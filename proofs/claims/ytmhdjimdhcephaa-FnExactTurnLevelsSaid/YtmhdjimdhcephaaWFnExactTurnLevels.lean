/- The walk of the law FnExactTurnLevels. -/
import Derived.Test.YtmhdjimdhcephaaLvJ
import Derived.Test.YtmhdjimdhcephaaRd
namespace Go.Proofs.Ytmhdjimdhcephaa
open Go Go.RowKit
set_option linter.unusedVariables false

set_option maxHeartbeats 1600000 in
set_option maxRecDepth 100000 in
theorem law_FnExactTurnLevels (v0 : Value) (l0 : List Int) (k0 : ∀ n ∈ l0, (Lit.int .i64 n).wf = true) (w : World) (r0 : Rd w v0 l0) :
    Calls Try.prog 4 #[v0] w fun e w' => e = .returned (.bool true) ∧ Below w.heap.size w w' := by
  have t0 : l0.length ≤ 9223372036854775807 := by have := r0.len; unfold maxLen at this; exact this
  have q0 := r0
  obtain ⟨A0, n0, c0, rfl, hn0, -, -, -⟩ := q0
  rw [hn0] at t0
  have N0 := Lib.hid hn0
  clear hn0
  by_cases h0 : n0 ≤ 1048576
  rotate_left
  · clear k0 r0
    go_enter Try.func4, Try.ntmps4
    go_wp2_with fail
    go_ret
    exact ⟨rfl, Below.refl _ _⟩
  have g0 : l0.length ≤ 1048576 := by rw [N0.out]; exact h0
  have HS := Lib.hid (fun (W : World) (x0 : Value) (r0 : Rd W x0 l0) => turn_spec W x0 l0 r0)
  have HI := Lib.hid (fun (W : World) (x0 : Value) (r0 : Rd W x0 l0) => turn_impl W x0 l0 r0)
  have hl0 : (ngV l0).length ≤ 2000000 := Nat.le_trans (ngV_len _) (by decide)
  have fR0_0 := Lib.hid (RdB.of r0)
  clear k0 r0
  generalize hz0 : ngV l0 = y0 at HS HI hl0
  clear hz0
  generalize hz1 : lvB l0 = y1 at HS HI
  clear hz1
  cases y1
  all_goals
    have G0 := Lib.hid g0
    clear g0
    have m1 : ¬ ((1 + (y0.length : Int) : Int) < 0) := by omega
    have m2 : ((1 + (y0.length : Int) : Int) != (1 + (y0.length : Int) : Int)) = false := by simp
    have m4 : ¬ ((1 + (l0.length : Int) : Int) < 0) := by omega
    go_enter Try.func4, Try.ntmps4
    have B0 := Lib.hid (Below.refl w.heap.size w)
    go_wp2_with fail
    refine (toInt64S_any _ _ l0 fR0_0.out.rd (by have := G0.out; omega)).mono ?_; rintro e u1 ⟨yv0, rfl, ho1_Y0, hb1⟩
    have d_R0_Y0 := Lib.hid (fR0_0.out.2.2)
    have lo_Y0 := Lib.hid (B0.out.size)
    have fR0_1 := Lib.hid (fR0_0.out.keep hb1)
    have B1 := Lib.hid (B0.out.trans (hb1.mono B0.out.size))
    have fY0_1 := Lib.hid (OwnIn.of ho1_Y0)
    clear hb1 ho1_Y0 fR0_0 B0
    go_wp2_with fail
    refine (HS.out _ _ fY0_1.out.rd).mono ?_; rintro e u2 ⟨sv0, rfl, ho2_S0, hb2⟩
    have d_R0_S0 := Lib.hid (fR0_1.out.2.2)
    have d_Y0_S0 := Lib.hid (fY0_1.out.2.2)
    have lo_S0 := Lib.hid (B1.out.size)
    have fR0_2 := Lib.hid (fR0_1.out.keep hb2)
    have fY0_2 := Lib.hid (fY0_1.out.keep hb2)
    have B2 := Lib.hid (B1.out.trans (hb2.mono B1.out.size))
    have fS0_2 := Lib.hid (OwnIn.of ho2_S0)
    clear hb2 ho2_S0 fR0_1 fY0_1 B1
    clear fY0_2
    go_wp2_with fail
    refine (toInt64S_any _ _ l0 fR0_2.out.rd (by have := G0.out; omega)).mono ?_; rintro e u3 ⟨xv0, rfl, ho3_X0, hb3⟩
    have d_R0_X0 := Lib.hid (fR0_2.out.2.2)
    have d_S0_X0 := Lib.hid (fS0_2.out.2.2)
    have lo_X0 := Lib.hid (B2.out.size)
    have fR0_3 := Lib.hid (fR0_2.out.keep hb3)
    have fS0_3 := Lib.hid (fS0_2.out.keep hb3)
    have B3 := Lib.hid (B2.out.trans (hb3.mono B2.out.size))
    have fX0_3 := Lib.hid (OwnIn.of ho3_X0)
    clear hb3 ho3_X0 fR0_2 fS0_2 B2
    go_wp2_with fail
    refine (HI.out _ _ fX0_3.out.rd).mono ?_; rintro e u4 ⟨gv0, rfl, ho4_G0, hb4⟩
    have d_R0_G0 := Lib.hid (fR0_3.out.2.2)
    have d_S0_G0 := Lib.hid (fS0_3.out.2.2)
    have d_X0_G0 := Lib.hid (fX0_3.out.2.2)
    have lo_G0 := Lib.hid (B3.out.size)
    have fR0_4 := Lib.hid (fR0_3.out.keep hb4)
    have fS0_4 := Lib.hid (fS0_3.out.keep hb4)
    have fX0_4 := Lib.hid (fX0_3.out.keep hb4)
    have B4 := Lib.hid (B3.out.trans (hb4.mono B3.out.size))
    have fG0_4 := Lib.hid (OwnIn.of ho4_G0)
    clear hb4 ho4_G0 fR0_3 fS0_3 fX0_3 B3
    go_wp2_with fail
    refine (eqInt64S_rd _ _ _ y0 fG0_4.out.rd fS0_4.out.rd).mono ?_; rintro e u5 ⟨rfl, q5, rfl⟩
    have fR0_5 := Lib.hid (fR0_4.out.drewN q5)
    have fS0_5 := Lib.hid (fS0_4.out.drewN q5)
    have fX0_5 := Lib.hid (fX0_4.out.drewN q5)
    have fG0_5 := Lib.hid (fG0_4.out.drewN q5)
    have B5 := Lib.hid (below_drewN B4.out q5)
    clear fR0_4 fS0_4 fX0_4 fG0_4 B4
    go_wp2_with fail
    refine (toInt64S_any _ _ l0 fR0_5.out.rd (by have := G0.out; omega)).mono ?_; rintro e u6 ⟨zv0, rfl, ho6_Z0, hb6⟩
    have d_R0_Z0 := Lib.hid (fR0_5.out.2.2)
    have d_S0_Z0 := Lib.hid (fS0_5.out.2.2)
    have d_X0_Z0 := Lib.hid (fX0_5.out.2.2)
    have d_G0_Z0 := Lib.hid (fG0_5.out.2.2)
    have lo_Z0 := Lib.hid (B5.out.size)
    have fR0_6 := Lib.hid (fR0_5.out.keep hb6)
    have fS0_6 := Lib.hid (fS0_5.out.keep hb6)
    have fX0_6 := Lib.hid (fX0_5.out.keep hb6)
    have fG0_6 := Lib.hid (fG0_5.out.keep hb6)
    have B6 := Lib.hid (B5.out.trans (hb6.mono B5.out.size))
    have fZ0_6 := Lib.hid (OwnIn.of ho6_Z0)
    clear hb6 ho6_Z0 fR0_5 fS0_5 fX0_5 fG0_5 B5
    go_wp2_with fail
    refine (eqInt64S_rd _ _ _ l0 fX0_6.out.rd fZ0_6.out.rd).mono ?_; rintro e u7 ⟨rfl, q7, rfl⟩
    have fR0_7 := Lib.hid (fR0_6.out.drewN q7)
    have fS0_7 := Lib.hid (fS0_6.out.drewN q7)
    have fX0_7 := Lib.hid (fX0_6.out.drewN q7)
    have fG0_7 := Lib.hid (fG0_6.out.drewN q7)
    have fZ0_7 := Lib.hid (fZ0_6.out.drewN q7)
    have B7 := Lib.hid (below_drewN B6.out q7)
    clear fR0_6 fS0_6 fX0_6 fG0_6 fZ0_6 B6
    clear fZ0_7
    go_wp2_with fail
    have := G0.out
    refine (markInt64S_any _ _ _ (l0) (1) (by omega) (by omega) (by omega) fX0_7.out.1).mono ?_; rintro e u8 ⟨rfl, hm8, hg8, hz8⟩
    have fR0_8 := Lib.hid (fR0_7.out.other fX0_7.out hg8 hz8 (Or.inl d_R0_X0.out))
    have fS0_8 := Lib.hid (fS0_7.out.other fX0_7.out hg8 hz8 (Or.inl d_S0_X0.out))
    have fX0_8 := Lib.hid (fX0_7.out.marked hm8 hz8)
    have fG0_8 := Lib.hid (fG0_7.out.other fX0_7.out hg8 hz8 (Or.inr d_X0_G0.out))
    have B8 := Lib.hid (OwnIn.belowMark B7.out fX0_7.out hg8 lo_X0.out B7.out.size)
    clear hm8 hg8 hz8 fR0_7 fS0_7 fX0_7 fG0_7 B7
    clear fX0_8
    go_wp2_with fail
    refine (eqInt64S_rd _ _ _ y0 fG0_8.out.rd fS0_8.out.rd).mono ?_; rintro e u9 ⟨rfl, q9, rfl⟩
    have fR0_9 := Lib.hid (fR0_8.out.drewN q9)
    have fS0_9 := Lib.hid (fS0_8.out.drewN q9)
    have fG0_9 := Lib.hid (fG0_8.out.drewN q9)
    have B9 := Lib.hid (below_drewN B8.out q9)
    clear fR0_8 fS0_8 fG0_8 B8
    go_wp2_with fail
    refine (markInt64S_any _ _ _ (y0) (1) (by omega) (by omega) (by omega) fG0_9.out.1).mono ?_; rintro e u10 ⟨rfl, hm10, hg10, hz10⟩
    have fR0_10 := Lib.hid (fR0_9.out.other fG0_9.out hg10 hz10 (Or.inl d_R0_G0.out))
    have fS0_10 := Lib.hid (fS0_9.out.other fG0_9.out hg10 hz10 (Or.inl d_S0_G0.out))
    have fG0_10 := Lib.hid (fG0_9.out.marked hm10 hz10)
    have B10 := Lib.hid (OwnIn.belowMark B9.out fG0_9.out hg10 lo_G0.out B9.out.size)
    clear hm10 hg10 hz10 fR0_9 fS0_9 fG0_9 B9
    go_wp2_with fail
    refine (heldInt64S_any _ _ _ y0.length (1) (by omega) (by omega) (by omega) fG0_10.out.1).mono ?_; rintro e u11 ⟨rfl, rfl⟩
    go_wp2_with fail
    refine (toInt64S_any _ _ l0 fR0_10.out.rd (by have := G0.out; omega)).mono ?_; rintro e u12 ⟨qv0, rfl, ho12_Q0, hb12⟩
    have d_R0_Q0 := Lib.hid (fR0_10.out.2.2)
    have d_S0_Q0 := Lib.hid (fS0_10.out.2.2)
    have d_G0_Q0 := Lib.hid (fG0_10.out.2.2)
    have lo_Q0 := Lib.hid (B10.out.size)
    have fR0_12 := Lib.hid (fR0_10.out.keep hb12)
    have fS0_12 := Lib.hid (fS0_10.out.keep hb12)
    have fG0_12 := Lib.hid (fG0_10.out.keep hb12)
    have B12 := Lib.hid (B10.out.trans (hb12.mono B10.out.size))
    have fQ0_12 := Lib.hid (OwnIn.of ho12_Q0)
    clear hb12 ho12_Q0 fR0_10 fS0_10 fG0_10 B10
    go_wp2_with fail
    refine (HI.out _ _ fQ0_12.out.rd).mono ?_; rintro e u13 ⟨hv0, rfl, ho13_H0, hb13⟩
    have d_R0_H0 := Lib.hid (fR0_12.out.2.2)
    have d_S0_H0 := Lib.hid (fS0_12.out.2.2)
    have d_G0_H0 := Lib.hid (fG0_12.out.2.2)
    have d_Q0_H0 := Lib.hid (fQ0_12.out.2.2)
    have lo_H0 := Lib.hid (B12.out.size)
    have fR0_13 := Lib.hid (fR0_12.out.keep hb13)
    have fS0_13 := Lib.hid (fS0_12.out.keep hb13)
    have fG0_13 := Lib.hid (fG0_12.out.keep hb13)
    have fQ0_13 := Lib.hid (fQ0_12.out.keep hb13)
    have B13 := Lib.hid (B12.out.trans (hb13.mono B12.out.size))
    have fH0_13 := Lib.hid (OwnIn.of ho13_H0)
    clear hb13 ho13_H0 fR0_12 fS0_12 fG0_12 fQ0_12 B12
    go_wp2_with fail
    refine (eqInt64S_rd _ _ _ y0 fH0_13.out.rd fS0_13.out.rd).mono ?_; rintro e u14 ⟨rfl, q14, rfl⟩
    have fR0_14 := Lib.hid (fR0_13.out.drewN q14)
    have fS0_14 := Lib.hid (fS0_13.out.drewN q14)
    have fG0_14 := Lib.hid (fG0_13.out.drewN q14)
    have fQ0_14 := Lib.hid (fQ0_13.out.drewN q14)
    have fH0_14 := Lib.hid (fH0_13.out.drewN q14)
    have B14 := Lib.hid (below_drewN B13.out q14)
    clear fR0_13 fS0_13 fG0_13 fQ0_13 fH0_13 B13
    go_wp2_with fail
    refine (heldInt64S_any _ _ _ y0.length (1) (by omega) (by omega) (by omega) fG0_14.out.1).mono ?_; rintro e u15 ⟨rfl, rfl⟩
    go_wp2_with fail
    go_ret
    exact ⟨rfl, B14.out⟩
end Go.Proofs.Ytmhdjimdhcephaa
