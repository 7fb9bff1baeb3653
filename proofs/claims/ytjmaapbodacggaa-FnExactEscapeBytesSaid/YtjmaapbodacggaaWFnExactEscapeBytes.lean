/- The walk of the law FnExactEscapeBytes. -/
import Derived.Test.YtjmaapbodacggaaEsc
import Derived.Test.YtjmaapbodacggaaRd
namespace Go.Proofs.Ytjmaapbodacggaa
open Go Go.RowKit
set_option linter.unusedVariables false

set_option maxHeartbeats 1600000 in
set_option maxRecDepth 100000 in
theorem law_FnExactEscapeBytes (v0 : Value) (l0 : List Int) (k0 : ∀ n ∈ l0, (Lit.int .i64 n).wf = true) (v1 : Value) (l1 : List Int) (k1 : ∀ n ∈ l1, (Lit.int .i64 n).wf = true) (w : World) (r0 : Rd w v0 l0) (r1 : Rd w v1 l1) :
    Calls Try.prog 6 #[v0, v1] w fun e w' => e = .returned (.bool true) ∧ Below w.heap.size w w' := by
  have t0 : l0.length ≤ 9223372036854775807 := by have := r0.len; unfold maxLen at this; exact this
  have q0 := r0
  obtain ⟨A0, n0, c0, rfl, hn0, -, -, -⟩ := q0
  rw [hn0] at t0
  have N0 := Lib.hid hn0
  clear hn0
  have t1 : l1.length ≤ 9223372036854775807 := by have := r1.len; unfold maxLen at this; exact this
  have q1 := r1
  obtain ⟨A1, n1, c1, rfl, hn1, -, -, -⟩ := q1
  rw [hn1] at t1
  have N1 := Lib.hid hn1
  clear hn1
  by_cases h0 : n0 ≤ 1048576
  rotate_left
  · clear k0 r0 k1 r1
    go_enter Try.func6, Try.ntmps6
    go_wp2_with fail
    go_ret
    exact ⟨rfl, Below.refl _ _⟩
  by_cases h1 : n1 ≤ 1048576
  rotate_left
  · clear k0 r0 k1 r1
    go_enter Try.func6, Try.ntmps6
    go_wp2_with fail
    go_ret
    exact ⟨rfl, Below.refl _ _⟩
  have g0 : l0.length ≤ 1048576 := by rw [N0.out]; exact h0
  have g1 : l1.length ≤ 1048576 := by rw [N1.out]; exact h1
  have HS := Lib.hid (fun (W : World) (x0 : Value) (r0 : Rd W x0 l0) (x1 : Value) (r1 : Rd W x1 l1) => escapeBytes_spec W x0 x1 l0 l1 r0 r1 (fun n hn => i64_bdd (k0 n hn)))
  have HI := Lib.hid (fun (W : World) (x0 : Value) (r0 : Rd W x0 l0) (x1 : Value) (r1 : Rd W x1 l1) => escapeBytes_impl W x0 x1 l0 l1 r0 r1 (fun n hn => i64_bdd (k0 n hn)))
  have hl0 : (ebV l0 l1).length ≤ 2000000 := Nat.le_trans (ebV_len _ _) (by decide)
  have fR0_0 := Lib.hid (RdB.of r0)
  have fR1_0 := Lib.hid (RdB.of r1)
  clear k0 r0 k1 r1
  generalize hz0 : ebV l0 l1 = y0 at HS HI hl0
  clear hz0
  generalize hz1 : ebOk l0 l1 = y1 at HS HI
  clear hz1
  cases y1
  all_goals
    have G0 := Lib.hid g0
    clear g0
    have G1 := Lib.hid g1
    clear g1
    have m1 : ¬ ((1 + (y0.length : Int) : Int) < 0) := by omega
    have m2 : ((1 + (y0.length : Int) : Int) != (1 + (y0.length : Int) : Int)) = false := by simp
    have m4 : ¬ ((1 + (l0.length : Int) + (l1.length : Int) : Int) < 0) := by omega
    go_enter Try.func6, Try.ntmps6
    have B0 := Lib.hid (Below.refl w.heap.size w)
    go_wp2_with fail
    refine (toInt64S_any _ _ l0 fR0_0.out.rd (by have := G0.out; omega)).mono ?_; rintro e u1 ⟨yv0, rfl, ho1_Y0, hb1⟩
    have d_R0_Y0 := Lib.hid (fR0_0.out.2.2)
    have d_R1_Y0 := Lib.hid (fR1_0.out.2.2)
    have lo_Y0 := Lib.hid (B0.out.size)
    have fR0_1 := Lib.hid (fR0_0.out.keep hb1)
    have fR1_1 := Lib.hid (fR1_0.out.keep hb1)
    have B1 := Lib.hid (B0.out.trans (hb1.mono B0.out.size))
    have fY0_1 := Lib.hid (OwnIn.of ho1_Y0)
    clear hb1 ho1_Y0 fR0_0 fR1_0 B0
    go_wp2_with fail
    refine (toInt64S_any _ _ l1 fR1_1.out.rd (by have := G1.out; omega)).mono ?_; rintro e u2 ⟨yv1, rfl, ho2_Y1, hb2⟩
    have d_R0_Y1 := Lib.hid (fR0_1.out.2.2)
    have d_R1_Y1 := Lib.hid (fR1_1.out.2.2)
    have d_Y0_Y1 := Lib.hid (fY0_1.out.2.2)
    have lo_Y1 := Lib.hid (B1.out.size)
    have fR0_2 := Lib.hid (fR0_1.out.keep hb2)
    have fR1_2 := Lib.hid (fR1_1.out.keep hb2)
    have fY0_2 := Lib.hid (fY0_1.out.keep hb2)
    have B2 := Lib.hid (B1.out.trans (hb2.mono B1.out.size))
    have fY1_2 := Lib.hid (OwnIn.of ho2_Y1)
    clear hb2 ho2_Y1 fR0_1 fR1_1 fY0_1 B1
    go_wp2_with fail
    refine (HS.out _ _ fY0_2.out.rd _ fY1_2.out.rd).mono ?_; rintro e u3 ⟨sv0, rfl, ho3_S0, hb3⟩
    have d_R0_S0 := Lib.hid (fR0_2.out.2.2)
    have d_R1_S0 := Lib.hid (fR1_2.out.2.2)
    have d_Y0_S0 := Lib.hid (fY0_2.out.2.2)
    have d_Y1_S0 := Lib.hid (fY1_2.out.2.2)
    have lo_S0 := Lib.hid (B2.out.size)
    have fR0_3 := Lib.hid (fR0_2.out.keep hb3)
    have fR1_3 := Lib.hid (fR1_2.out.keep hb3)
    have fY0_3 := Lib.hid (fY0_2.out.keep hb3)
    have fY1_3 := Lib.hid (fY1_2.out.keep hb3)
    have B3 := Lib.hid (B2.out.trans (hb3.mono B2.out.size))
    have fS0_3 := Lib.hid (OwnIn.of ho3_S0)
    clear hb3 ho3_S0 fR0_2 fR1_2 fY0_2 fY1_2 B2
    clear fY0_3
    clear fY1_3
    go_wp2_with fail
    refine (toInt64S_any _ _ l0 fR0_3.out.rd (by have := G0.out; omega)).mono ?_; rintro e u4 ⟨xv0, rfl, ho4_X0, hb4⟩
    have d_R0_X0 := Lib.hid (fR0_3.out.2.2)
    have d_R1_X0 := Lib.hid (fR1_3.out.2.2)
    have d_S0_X0 := Lib.hid (fS0_3.out.2.2)
    have lo_X0 := Lib.hid (B3.out.size)
    have fR0_4 := Lib.hid (fR0_3.out.keep hb4)
    have fR1_4 := Lib.hid (fR1_3.out.keep hb4)
    have fS0_4 := Lib.hid (fS0_3.out.keep hb4)
    have B4 := Lib.hid (B3.out.trans (hb4.mono B3.out.size))
    have fX0_4 := Lib.hid (OwnIn.of ho4_X0)
    clear hb4 ho4_X0 fR0_3 fR1_3 fS0_3 B3
    go_wp2_with fail
    refine (toInt64S_any _ _ l1 fR1_4.out.rd (by have := G1.out; omega)).mono ?_; rintro e u5 ⟨xv1, rfl, ho5_X1, hb5⟩
    have d_R0_X1 := Lib.hid (fR0_4.out.2.2)
    have d_R1_X1 := Lib.hid (fR1_4.out.2.2)
    have d_S0_X1 := Lib.hid (fS0_4.out.2.2)
    have d_X0_X1 := Lib.hid (fX0_4.out.2.2)
    have lo_X1 := Lib.hid (B4.out.size)
    have fR0_5 := Lib.hid (fR0_4.out.keep hb5)
    have fR1_5 := Lib.hid (fR1_4.out.keep hb5)
    have fS0_5 := Lib.hid (fS0_4.out.keep hb5)
    have fX0_5 := Lib.hid (fX0_4.out.keep hb5)
    have B5 := Lib.hid (B4.out.trans (hb5.mono B4.out.size))
    have fX1_5 := Lib.hid (OwnIn.of ho5_X1)
    clear hb5 ho5_X1 fR0_4 fR1_4 fS0_4 fX0_4 B4
    go_wp2_with fail
    refine (HI.out _ _ fX0_5.out.rd _ fX1_5.out.rd).mono ?_; rintro e u6 ⟨gv0, rfl, ho6_G0, hb6⟩
    have d_R0_G0 := Lib.hid (fR0_5.out.2.2)
    have d_R1_G0 := Lib.hid (fR1_5.out.2.2)
    have d_S0_G0 := Lib.hid (fS0_5.out.2.2)
    have d_X0_G0 := Lib.hid (fX0_5.out.2.2)
    have d_X1_G0 := Lib.hid (fX1_5.out.2.2)
    have lo_G0 := Lib.hid (B5.out.size)
    have fR0_6 := Lib.hid (fR0_5.out.keep hb6)
    have fR1_6 := Lib.hid (fR1_5.out.keep hb6)
    have fS0_6 := Lib.hid (fS0_5.out.keep hb6)
    have fX0_6 := Lib.hid (fX0_5.out.keep hb6)
    have fX1_6 := Lib.hid (fX1_5.out.keep hb6)
    have B6 := Lib.hid (B5.out.trans (hb6.mono B5.out.size))
    have fG0_6 := Lib.hid (OwnIn.of ho6_G0)
    clear hb6 ho6_G0 fR0_5 fR1_5 fS0_5 fX0_5 fX1_5 B5
    go_wp2_with fail
    refine (eqInt64S_rd _ _ _ y0 fG0_6.out.rd fS0_6.out.rd).mono ?_; rintro e u7 ⟨rfl, q7, rfl⟩
    have fR0_7 := Lib.hid (fR0_6.out.drewN q7)
    have fR1_7 := Lib.hid (fR1_6.out.drewN q7)
    have fS0_7 := Lib.hid (fS0_6.out.drewN q7)
    have fX0_7 := Lib.hid (fX0_6.out.drewN q7)
    have fX1_7 := Lib.hid (fX1_6.out.drewN q7)
    have fG0_7 := Lib.hid (fG0_6.out.drewN q7)
    have B7 := Lib.hid (below_drewN B6.out q7)
    clear fR0_6 fR1_6 fS0_6 fX0_6 fX1_6 fG0_6 B6
    go_wp2_with fail
    refine (toInt64S_any _ _ l0 fR0_7.out.rd (by have := G0.out; omega)).mono ?_; rintro e u8 ⟨zv0, rfl, ho8_Z0, hb8⟩
    have d_R0_Z0 := Lib.hid (fR0_7.out.2.2)
    have d_R1_Z0 := Lib.hid (fR1_7.out.2.2)
    have d_S0_Z0 := Lib.hid (fS0_7.out.2.2)
    have d_X0_Z0 := Lib.hid (fX0_7.out.2.2)
    have d_X1_Z0 := Lib.hid (fX1_7.out.2.2)
    have d_G0_Z0 := Lib.hid (fG0_7.out.2.2)
    have lo_Z0 := Lib.hid (B7.out.size)
    have fR0_8 := Lib.hid (fR0_7.out.keep hb8)
    have fR1_8 := Lib.hid (fR1_7.out.keep hb8)
    have fS0_8 := Lib.hid (fS0_7.out.keep hb8)
    have fX0_8 := Lib.hid (fX0_7.out.keep hb8)
    have fX1_8 := Lib.hid (fX1_7.out.keep hb8)
    have fG0_8 := Lib.hid (fG0_7.out.keep hb8)
    have B8 := Lib.hid (B7.out.trans (hb8.mono B7.out.size))
    have fZ0_8 := Lib.hid (OwnIn.of ho8_Z0)
    clear hb8 ho8_Z0 fR0_7 fR1_7 fS0_7 fX0_7 fX1_7 fG0_7 B7
    go_wp2_with fail
    refine (eqInt64S_rd _ _ _ l0 fX0_8.out.rd fZ0_8.out.rd).mono ?_; rintro e u9 ⟨rfl, q9, rfl⟩
    have fR0_9 := Lib.hid (fR0_8.out.drewN q9)
    have fR1_9 := Lib.hid (fR1_8.out.drewN q9)
    have fS0_9 := Lib.hid (fS0_8.out.drewN q9)
    have fX0_9 := Lib.hid (fX0_8.out.drewN q9)
    have fX1_9 := Lib.hid (fX1_8.out.drewN q9)
    have fG0_9 := Lib.hid (fG0_8.out.drewN q9)
    have fZ0_9 := Lib.hid (fZ0_8.out.drewN q9)
    have B9 := Lib.hid (below_drewN B8.out q9)
    clear fR0_8 fR1_8 fS0_8 fX0_8 fX1_8 fG0_8 fZ0_8 B8
    clear fZ0_9
    go_wp2_with fail
    refine (toInt64S_any _ _ l1 fR1_9.out.rd (by have := G1.out; omega)).mono ?_; rintro e u10 ⟨zv1, rfl, ho10_Z1, hb10⟩
    have d_R0_Z1 := Lib.hid (fR0_9.out.2.2)
    have d_R1_Z1 := Lib.hid (fR1_9.out.2.2)
    have d_S0_Z1 := Lib.hid (fS0_9.out.2.2)
    have d_X0_Z1 := Lib.hid (fX0_9.out.2.2)
    have d_X1_Z1 := Lib.hid (fX1_9.out.2.2)
    have d_G0_Z1 := Lib.hid (fG0_9.out.2.2)
    have lo_Z1 := Lib.hid (B9.out.size)
    have fR0_10 := Lib.hid (fR0_9.out.keep hb10)
    have fR1_10 := Lib.hid (fR1_9.out.keep hb10)
    have fS0_10 := Lib.hid (fS0_9.out.keep hb10)
    have fX0_10 := Lib.hid (fX0_9.out.keep hb10)
    have fX1_10 := Lib.hid (fX1_9.out.keep hb10)
    have fG0_10 := Lib.hid (fG0_9.out.keep hb10)
    have B10 := Lib.hid (B9.out.trans (hb10.mono B9.out.size))
    have fZ1_10 := Lib.hid (OwnIn.of ho10_Z1)
    clear hb10 ho10_Z1 fR0_9 fR1_9 fS0_9 fX0_9 fX1_9 fG0_9 B9
    go_wp2_with fail
    refine (eqInt64S_rd _ _ _ l1 fX1_10.out.rd fZ1_10.out.rd).mono ?_; rintro e u11 ⟨rfl, q11, rfl⟩
    have fR0_11 := Lib.hid (fR0_10.out.drewN q11)
    have fR1_11 := Lib.hid (fR1_10.out.drewN q11)
    have fS0_11 := Lib.hid (fS0_10.out.drewN q11)
    have fX0_11 := Lib.hid (fX0_10.out.drewN q11)
    have fX1_11 := Lib.hid (fX1_10.out.drewN q11)
    have fG0_11 := Lib.hid (fG0_10.out.drewN q11)
    have fZ1_11 := Lib.hid (fZ1_10.out.drewN q11)
    have B11 := Lib.hid (below_drewN B10.out q11)
    clear fR0_10 fR1_10 fS0_10 fX0_10 fX1_10 fG0_10 fZ1_10 B10
    clear fZ1_11
    go_wp2_with fail
    have := G0.out
    refine (markInt64S_any _ _ _ (l0) (1) (by omega) (by omega) (by omega) fX0_11.out.1).mono ?_; rintro e u12 ⟨rfl, hm12, hg12, hz12⟩
    have fR0_12 := Lib.hid (fR0_11.out.other fX0_11.out hg12 hz12 (Or.inl d_R0_X0.out))
    have fR1_12 := Lib.hid (fR1_11.out.other fX0_11.out hg12 hz12 (Or.inl d_R1_X0.out))
    have fS0_12 := Lib.hid (fS0_11.out.other fX0_11.out hg12 hz12 (Or.inl d_S0_X0.out))
    have fX0_12 := Lib.hid (fX0_11.out.marked hm12 hz12)
    have fX1_12 := Lib.hid (fX1_11.out.other fX0_11.out hg12 hz12 (Or.inr d_X0_X1.out))
    have fG0_12 := Lib.hid (fG0_11.out.other fX0_11.out hg12 hz12 (Or.inr d_X0_G0.out))
    have B12 := Lib.hid (OwnIn.belowMark B11.out fX0_11.out hg12 lo_X0.out B11.out.size)
    clear hm12 hg12 hz12 fR0_11 fR1_11 fS0_11 fX0_11 fX1_11 fG0_11 B11
    go_wp2_with fail
    have := G1.out
    refine (markInt64S_any _ _ _ (l1) (1 + (l0.length : Int)) (by omega) (by omega) (by omega) fX1_12.out.1).mono ?_; rintro e u13 ⟨rfl, hm13, hg13, hz13⟩
    have fR0_13 := Lib.hid (fR0_12.out.other fX1_12.out hg13 hz13 (Or.inl d_R0_X1.out))
    have fR1_13 := Lib.hid (fR1_12.out.other fX1_12.out hg13 hz13 (Or.inl d_R1_X1.out))
    have fS0_13 := Lib.hid (fS0_12.out.other fX1_12.out hg13 hz13 (Or.inl d_S0_X1.out))
    have fX0_13 := Lib.hid (fX0_12.out.other fX1_12.out hg13 hz13 (Or.inl d_X0_X1.out))
    have fX1_13 := Lib.hid (fX1_12.out.marked hm13 hz13)
    have fG0_13 := Lib.hid (fG0_12.out.other fX1_12.out hg13 hz13 (Or.inr d_X1_G0.out))
    have B13 := Lib.hid (OwnIn.belowMark B12.out fX1_12.out hg13 lo_X1.out B12.out.size)
    clear hm13 hg13 hz13 fR0_12 fR1_12 fS0_12 fX0_12 fX1_12 fG0_12 B12
    clear fX0_13
    clear fX1_13
    go_wp2_with fail
    refine (eqInt64S_rd _ _ _ y0 fG0_13.out.rd fS0_13.out.rd).mono ?_; rintro e u14 ⟨rfl, q14, rfl⟩
    have fR0_14 := Lib.hid (fR0_13.out.drewN q14)
    have fR1_14 := Lib.hid (fR1_13.out.drewN q14)
    have fS0_14 := Lib.hid (fS0_13.out.drewN q14)
    have fG0_14 := Lib.hid (fG0_13.out.drewN q14)
    have B14 := Lib.hid (below_drewN B13.out q14)
    clear fR0_13 fR1_13 fS0_13 fG0_13 B13
    go_wp2_with fail
    refine (markInt64S_any _ _ _ (y0) (1) (by omega) (by omega) (by omega) fG0_14.out.1).mono ?_; rintro e u15 ⟨rfl, hm15, hg15, hz15⟩
    have fR0_15 := Lib.hid (fR0_14.out.other fG0_14.out hg15 hz15 (Or.inl d_R0_G0.out))
    have fR1_15 := Lib.hid (fR1_14.out.other fG0_14.out hg15 hz15 (Or.inl d_R1_G0.out))
    have fS0_15 := Lib.hid (fS0_14.out.other fG0_14.out hg15 hz15 (Or.inl d_S0_G0.out))
    have fG0_15 := Lib.hid (fG0_14.out.marked hm15 hz15)
    have B15 := Lib.hid (OwnIn.belowMark B14.out fG0_14.out hg15 lo_G0.out B14.out.size)
    clear hm15 hg15 hz15 fR0_14 fR1_14 fS0_14 fG0_14 B14
    go_wp2_with fail
    refine (heldInt64S_any _ _ _ y0.length (1) (by omega) (by omega) (by omega) fG0_15.out.1).mono ?_; rintro e u16 ⟨rfl, rfl⟩
    go_wp2_with fail
    refine (toInt64S_any _ _ l0 fR0_15.out.rd (by have := G0.out; omega)).mono ?_; rintro e u17 ⟨qv0, rfl, ho17_Q0, hb17⟩
    have d_R0_Q0 := Lib.hid (fR0_15.out.2.2)
    have d_R1_Q0 := Lib.hid (fR1_15.out.2.2)
    have d_S0_Q0 := Lib.hid (fS0_15.out.2.2)
    have d_G0_Q0 := Lib.hid (fG0_15.out.2.2)
    have lo_Q0 := Lib.hid (B15.out.size)
    have fR0_17 := Lib.hid (fR0_15.out.keep hb17)
    have fR1_17 := Lib.hid (fR1_15.out.keep hb17)
    have fS0_17 := Lib.hid (fS0_15.out.keep hb17)
    have fG0_17 := Lib.hid (fG0_15.out.keep hb17)
    have B17 := Lib.hid (B15.out.trans (hb17.mono B15.out.size))
    have fQ0_17 := Lib.hid (OwnIn.of ho17_Q0)
    clear hb17 ho17_Q0 fR0_15 fR1_15 fS0_15 fG0_15 B15
    go_wp2_with fail
    refine (toInt64S_any _ _ l1 fR1_17.out.rd (by have := G1.out; omega)).mono ?_; rintro e u18 ⟨qv1, rfl, ho18_Q1, hb18⟩
    have d_R0_Q1 := Lib.hid (fR0_17.out.2.2)
    have d_R1_Q1 := Lib.hid (fR1_17.out.2.2)
    have d_S0_Q1 := Lib.hid (fS0_17.out.2.2)
    have d_G0_Q1 := Lib.hid (fG0_17.out.2.2)
    have d_Q0_Q1 := Lib.hid (fQ0_17.out.2.2)
    have lo_Q1 := Lib.hid (B17.out.size)
    have fR0_18 := Lib.hid (fR0_17.out.keep hb18)
    have fR1_18 := Lib.hid (fR1_17.out.keep hb18)
    have fS0_18 := Lib.hid (fS0_17.out.keep hb18)
    have fG0_18 := Lib.hid (fG0_17.out.keep hb18)
    have fQ0_18 := Lib.hid (fQ0_17.out.keep hb18)
    have B18 := Lib.hid (B17.out.trans (hb18.mono B17.out.size))
    have fQ1_18 := Lib.hid (OwnIn.of ho18_Q1)
    clear hb18 ho18_Q1 fR0_17 fR1_17 fS0_17 fG0_17 fQ0_17 B17
    go_wp2_with fail
    refine (HI.out _ _ fQ0_18.out.rd _ fQ1_18.out.rd).mono ?_; rintro e u19 ⟨hv0, rfl, ho19_H0, hb19⟩
    have d_R0_H0 := Lib.hid (fR0_18.out.2.2)
    have d_R1_H0 := Lib.hid (fR1_18.out.2.2)
    have d_S0_H0 := Lib.hid (fS0_18.out.2.2)
    have d_G0_H0 := Lib.hid (fG0_18.out.2.2)
    have d_Q0_H0 := Lib.hid (fQ0_18.out.2.2)
    have d_Q1_H0 := Lib.hid (fQ1_18.out.2.2)
    have lo_H0 := Lib.hid (B18.out.size)
    have fR0_19 := Lib.hid (fR0_18.out.keep hb19)
    have fR1_19 := Lib.hid (fR1_18.out.keep hb19)
    have fS0_19 := Lib.hid (fS0_18.out.keep hb19)
    have fG0_19 := Lib.hid (fG0_18.out.keep hb19)
    have fQ0_19 := Lib.hid (fQ0_18.out.keep hb19)
    have fQ1_19 := Lib.hid (fQ1_18.out.keep hb19)
    have B19 := Lib.hid (B18.out.trans (hb19.mono B18.out.size))
    have fH0_19 := Lib.hid (OwnIn.of ho19_H0)
    clear hb19 ho19_H0 fR0_18 fR1_18 fS0_18 fG0_18 fQ0_18 fQ1_18 B18
    go_wp2_with fail
    refine (eqInt64S_rd _ _ _ y0 fH0_19.out.rd fS0_19.out.rd).mono ?_; rintro e u20 ⟨rfl, q20, rfl⟩
    have fR0_20 := Lib.hid (fR0_19.out.drewN q20)
    have fR1_20 := Lib.hid (fR1_19.out.drewN q20)
    have fS0_20 := Lib.hid (fS0_19.out.drewN q20)
    have fG0_20 := Lib.hid (fG0_19.out.drewN q20)
    have fQ0_20 := Lib.hid (fQ0_19.out.drewN q20)
    have fQ1_20 := Lib.hid (fQ1_19.out.drewN q20)
    have fH0_20 := Lib.hid (fH0_19.out.drewN q20)
    have B20 := Lib.hid (below_drewN B19.out q20)
    clear fR0_19 fR1_19 fS0_19 fG0_19 fQ0_19 fQ1_19 fH0_19 B19
    go_wp2_with fail
    refine (heldInt64S_any _ _ _ y0.length (1) (by omega) (by omega) (by omega) fG0_20.out.1).mono ?_; rintro e u21 ⟨rfl, rfl⟩
    go_wp2_with fail
    go_ret
    exact ⟨rfl, B20.out⟩
end Go.Proofs.Ytjmaapbodacggaa
