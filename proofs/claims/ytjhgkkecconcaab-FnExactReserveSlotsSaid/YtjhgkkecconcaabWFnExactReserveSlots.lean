/- The walk of the law FnExactReserveSlots. -/
import Derived.Test.YtjhgkkecconcaabRvL
namespace Go.Proofs.Ytjhgkkecconcaab
open Go Go.RowKit
set_option linter.unusedVariables false

set_option maxHeartbeats 1600000 in
set_option maxRecDepth 100000 in
theorem law_FnExactReserveSlots (v0 : Value) (l0 : List Int) (k0 : ∀ n ∈ l0, (Lit.int .i64 n).wf = true) (a1 : Int) (w1 : (Lit.int .i64 a1).wf = true) (w : World) (r0 : Rd w v0 l0) :
    Calls Try.prog 5 #[v0, .int .i64 a1] w fun e w' => e = .returned (.bool true) ∧ Below w.heap.size w w' := by
  have t0 : l0.length ≤ 9223372036854775807 := by have := r0.len; unfold maxLen at this; exact this
  have q0 := r0
  obtain ⟨A0, n0, c0, rfl, hn0, -, -, -⟩ := q0
  rw [hn0] at t0
  have N0 := Lib.hid hn0
  clear hn0
  by_cases h0 : n0 ≤ 1048576
  rotate_left
  · clear k0 r0 w1
    go_enter Try.func5, Try.ntmps5
    go_wp2_with fail
    go_ret
    exact ⟨rfl, Below.refl _ _⟩
  have g0 : l0.length ≤ 1048576 := by rw [N0.out]; exact h0
  have HS := Lib.hid (fun (W : World) (x0 : Value) (r0 : Rd W x0 l0) => reserve_spec W x0 l0 a1 r0)
  have HI := Lib.hid (fun (W : World) (x0 : Value) (r0 : Rd W x0 l0) => reserve_impl W x0 l0 a1 r0)
  obtain ⟨hs1, hs2⟩ := rvV_small l0 a1
  have fR := Lib.hid (RdB.of r0)
  clear k0 r0 w1
  generalize rvV l0 a1 = g at *
  have HM := Lib.hid (fun (W : World) (lo hi : Nat) (v : Value) (us : List Value) (h : OwnG W lo hi v us g) => markInt64SS_any W lo hi v us g 1 (by omega) (by omega) hs1 hs2 h)
  have HH := Lib.hid (fun (W : World) (lo hi : Nat) (v : Value) (us : List Value) (h : OwnG W lo hi v us (marksSS 1 g)) => heldInt64SS_any W lo hi v us g 1 (by omega) (by omega) hs1 hs2 h)
  obtain ⟨T, hT⟩ : ∃ T : Int, T = 1 + (tot g : Nat) := ⟨_, rfl⟩
  rw [← hT] at HM HH
  have T0 : 0 ≤ T := by omega
  clear hT hs1 hs2
  generalize rvK l0 a1 = x1 at *
  cases x1
  all_goals
    have G0 := Lib.hid g0
    clear g0
    have m4 : ¬ ((1 + (l0.length : Int) : Int) < 0) := by omega
    have m5 : ¬ (T < 0) := by omega
    have m6 : (T != T) = false := by simp
    go_enter Try.func5, Try.ntmps5
    have B0 := Lib.hid (Below.refl w.heap.size w)
    go_wp2_with fail
    refine (toInt64S_any _ _ l0 fR.out.rd (by have := G0.out; omega)).mono ?_; rintro e u1 ⟨yv, rfl, ho1, hb1⟩
    have d_R_Y := Lib.hid (fR.out.2.2)
    have lo_Y := Lib.hid (B0.out.size)
    have fR_1 := Lib.hid (fR.out.keep hb1)
    have B1 := Lib.hid (B0.out.trans (hb1.mono B0.out.size))
    have fY_1 := Lib.hid (OwnIn.of ho1)
    clear hb1 ho1 fR B0
    go_wp2_with fail
    refine (HS.out _ _ fY_1.out.rd).mono ?_; rintro e u2 ⟨sv, sus, rfl, ho2, hb2⟩
    have d_R_S := Lib.hid (fR_1.out.2.2)
    have d_Y_S := Lib.hid (fY_1.out.2.2)
    have lo_S := Lib.hid (B1.out.size)
    have fR_2 := Lib.hid (fR_1.out.keep hb2)
    have fY_2 := Lib.hid (fY_1.out.keep hb2)
    have B2 := Lib.hid (B1.out.trans (hb2.mono B1.out.size))
    have fS_2 := Lib.hid (ho2)
    clear hb2 ho2 fR_1 fY_1 B1
    clear fY_2
    go_wp2_with fail
    refine (toInt64S_any _ _ l0 fR_2.out.rd (by have := G0.out; omega)).mono ?_; rintro e u3 ⟨xv, rfl, ho3, hb3⟩
    have d_R_X := Lib.hid (fR_2.out.2.2)
    have d_S_X := Lib.hid (fS_2.out.size)
    have lo_X := Lib.hid (B2.out.size)
    have fR_3 := Lib.hid (fR_2.out.keep hb3)
    have fS_3 := Lib.hid (fS_2.out.keep hb3)
    have B3 := Lib.hid (B2.out.trans (hb3.mono B2.out.size))
    have fX_3 := Lib.hid (OwnIn.of ho3)
    clear hb3 ho3 fR_2 fS_2 B2
    go_wp2_with fail
    refine (HI.out _ _ fX_3.out.rd).mono ?_; rintro e u4 ⟨gv, gus, rfl, ho4, hb4⟩
    have d_R_G := Lib.hid (fR_3.out.2.2)
    have d_S_G := Lib.hid (fS_3.out.size)
    have d_X_G := Lib.hid (fX_3.out.2.2)
    have lo_G := Lib.hid (B3.out.size)
    have fR_4 := Lib.hid (fR_3.out.keep hb4)
    have fS_4 := Lib.hid (fS_3.out.keep hb4)
    have fX_4 := Lib.hid (fX_3.out.keep hb4)
    have B4 := Lib.hid (B3.out.trans (hb4.mono B3.out.size))
    have fG_4 := Lib.hid (ho4)
    clear hb4 ho4 fR_3 fS_3 fX_3 B3
    go_wp2_with fail
    refine (eqInt64SS_rd _ _ _ g fG_4.out.rdg fS_4.out.rdg).mono ?_; rintro e u5 ⟨rfl, q5, rfl⟩
    have fR_5 := Lib.hid (fR_4.out.drewN q5)
    have fS_5 := Lib.hid (fS_4.out.drewN q5)
    have fX_5 := Lib.hid (fX_4.out.drewN q5)
    have fG_5 := Lib.hid (fG_4.out.drewN q5)
    have B5 := Lib.hid (below_drewN B4.out q5)
    clear fR_4 fS_4 fX_4 fG_4 B4
    go_wp2_with fail
    refine (toInt64S_any _ _ l0 fR_5.out.rd (by have := G0.out; omega)).mono ?_; rintro e u6 ⟨zv, rfl, ho6, hb6⟩
    have d_R_Z := Lib.hid (fR_5.out.2.2)
    have d_S_Z := Lib.hid (fS_5.out.size)
    have d_X_Z := Lib.hid (fX_5.out.2.2)
    have d_G_Z := Lib.hid (fG_5.out.size)
    have lo_Z := Lib.hid (B5.out.size)
    have fR_6 := Lib.hid (fR_5.out.keep hb6)
    have fS_6 := Lib.hid (fS_5.out.keep hb6)
    have fX_6 := Lib.hid (fX_5.out.keep hb6)
    have fG_6 := Lib.hid (fG_5.out.keep hb6)
    have B6 := Lib.hid (B5.out.trans (hb6.mono B5.out.size))
    have fZ_6 := Lib.hid (OwnIn.of ho6)
    clear hb6 ho6 fR_5 fS_5 fX_5 fG_5 B5
    go_wp2_with fail
    refine (eqInt64S_rd _ _ _ l0 fX_6.out.rd fZ_6.out.rd).mono ?_; rintro e u7 ⟨rfl, q7, rfl⟩
    have fR_7 := Lib.hid (fR_6.out.drewN q7)
    have fS_7 := Lib.hid (fS_6.out.drewN q7)
    have fX_7 := Lib.hid (fX_6.out.drewN q7)
    have fG_7 := Lib.hid (fG_6.out.drewN q7)
    have fZ_7 := Lib.hid (fZ_6.out.drewN q7)
    have B7 := Lib.hid (below_drewN B6.out q7)
    clear fR_6 fS_6 fX_6 fG_6 fZ_6 B6
    clear fZ_7
    go_wp2_with fail
    have := G0.out
    refine (markInt64S_any _ _ _ l0 1 (by omega) (by omega) (by omega) fX_7.out.1).mono ?_; rintro e u8 ⟨rfl, hm8, hg8, hz8⟩
    have fR_8 := Lib.hid (fR_7.out.other fX_7.out hg8 hz8 (Or.inl d_R_X.out))
    have fS_8 := Lib.hid (fS_7.out.marked fX_7.out hg8 (Or.inl d_S_X.out))
    have fG_8 := Lib.hid (fG_7.out.marked fX_7.out hg8 (Or.inr d_X_G.out))
    have B8 := Lib.hid (OwnIn.belowMark B7.out fX_7.out hg8 lo_X.out B7.out.size)
    clear hm8 hg8 hz8 fX_7 fR_7 fS_7 fG_7 B7
    go_wp2_with fail
    refine (eqInt64SS_rd _ _ _ g fG_8.out.rdg fS_8.out.rdg).mono ?_; rintro e u9 ⟨rfl, q9, rfl⟩
    have fR_9 := Lib.hid (fR_8.out.drewN q9)
    have fS_9 := Lib.hid (fS_8.out.drewN q9)
    have fG_9 := Lib.hid (fG_8.out.drewN q9)
    have B9 := Lib.hid (below_drewN B8.out q9)
    clear fR_8 fS_8 fG_8 B8
    go_wp2_with fail
    refine (HM.out _ _ _ _ _ fG_9.out).mono ?_; rintro e u10 ⟨rfl, ho10, hc10⟩
    have fR_10 := Lib.hid (fR_9.out.chg hc10 d_R_G.out)
    have fS_10 := Lib.hid (fS_9.out.other hc10 d_S_G.out)
    have fG_10 := Lib.hid ho10
    have B10 := Lib.hid (ChgG.below B9.out hc10 lo_G.out)
    clear ho10 hc10 fR_9 fS_9 fG_9 B9
    go_wp2_with fail
    refine (HH.out _ _ _ _ _ fG_10.out).mono ?_; rintro e u11 ⟨rfl, rfl⟩
    go_wp2_with fail
    refine (toInt64S_any _ _ l0 fR_10.out.rd (by have := G0.out; omega)).mono ?_; rintro e u12 ⟨qv, rfl, ho12, hb12⟩
    have d_R_Q := Lib.hid (fR_10.out.2.2)
    have d_S_Q := Lib.hid (fS_10.out.size)
    have d_G_Q := Lib.hid (fG_10.out.size)
    have lo_Q := Lib.hid (B10.out.size)
    have fR_12 := Lib.hid (fR_10.out.keep hb12)
    have fS_12 := Lib.hid (fS_10.out.keep hb12)
    have fG_12 := Lib.hid (fG_10.out.keep hb12)
    have B12 := Lib.hid (B10.out.trans (hb12.mono B10.out.size))
    have fQ_12 := Lib.hid (OwnIn.of ho12)
    clear hb12 ho12 fR_10 fS_10 fG_10 B10
    go_wp2_with fail
    refine (HI.out _ _ fQ_12.out.rd).mono ?_; rintro e u13 ⟨hv, hus, rfl, ho13, hb13⟩
    have d_R_H := Lib.hid (fR_12.out.2.2)
    have d_S_H := Lib.hid (fS_12.out.size)
    have d_G_H := Lib.hid (fG_12.out.size)
    have d_Q_H := Lib.hid (fQ_12.out.2.2)
    have lo_H := Lib.hid (B12.out.size)
    have fR_13 := Lib.hid (fR_12.out.keep hb13)
    have fS_13 := Lib.hid (fS_12.out.keep hb13)
    have fG_13 := Lib.hid (fG_12.out.keep hb13)
    have fQ_13 := Lib.hid (fQ_12.out.keep hb13)
    have B13 := Lib.hid (B12.out.trans (hb13.mono B12.out.size))
    have fH_13 := Lib.hid (ho13)
    clear hb13 ho13 fR_12 fS_12 fG_12 fQ_12 B12
    go_wp2_with fail
    refine (eqInt64SS_rd _ _ _ g fH_13.out.rdg fS_13.out.rdg).mono ?_; rintro e u14 ⟨rfl, q14, rfl⟩
    have fR_14 := Lib.hid (fR_13.out.drewN q14)
    have fS_14 := Lib.hid (fS_13.out.drewN q14)
    have fG_14 := Lib.hid (fG_13.out.drewN q14)
    have fQ_14 := Lib.hid (fQ_13.out.drewN q14)
    have fH_14 := Lib.hid (fH_13.out.drewN q14)
    have B14 := Lib.hid (below_drewN B13.out q14)
    clear fR_13 fS_13 fG_13 fQ_13 fH_13 B13
    go_wp2_with fail
    refine (HH.out _ _ _ _ _ fG_14.out).mono ?_; rintro e u15 ⟨rfl, rfl⟩
    go_wp2_with fail
    go_ret
    exact ⟨rfl, B14.out⟩
end Go.Proofs.Ytjhgkkecconcaab
