/- The walk of the law FnExactMeanLength. -/
import Derived.Test.YtijmfienaoeboaaMlo
import Derived.Test.YtijmfienaoeboaaRs
import Derived.Test.YtijmfienaoeboaaRd
namespace Go.Proofs.Ytijmfienaoeboaa
open Go Go.RowKit
set_option linter.unusedVariables false

set_option maxHeartbeats 1600000 in
set_option maxRecDepth 100000 in
theorem law_FnExactMeanLength (v0 : Value) (l0 : List ByteArray) (k0 : ∀ s ∈ l0, s.size ≤ maxLen) (v1 : Value) (l1 : List Int) (k1 : ∀ n ∈ l1, (Lit.int .i64 n).wf = true) (w : World) (r0 : RdS w v0 l0) (r1 : Rd w v1 l1) :
    Calls Try.prog 7 #[v0, v1] w fun e w' => e = .returned (.bool true) ∧ Below w.heap.size w w' := by
  have t1 : l1.length ≤ 9223372036854775807 := by have := r1.len; unfold maxLen at this; exact this
  have q1 := r1
  obtain ⟨A1, n1, c1, rfl, hn1, -, -, -⟩ := q1
  rw [hn1] at t1
  have N1 := Lib.hid hn1
  clear hn1
  by_cases h1 : n1 ≤ 1048576
  rotate_left
  · clear k0 r0 k1 r1
    go_enter Try.func7, Try.ntmps7
    go_wp2_with fail
    go_ret
    exact ⟨rfl, Below.refl _ _⟩
  have g1 : l1.length ≤ 1048576 := by rw [N1.out]; exact h1
  have HZ := Lib.hid (fun W (h : RdS W v0 l0) => szStringS_any W v0 l0 1048576 h k0 (by decide) (by decide))
  have hok := szS_ok l0 1048576
  have HR0 := Lib.hid (r0)
  by_cases hz : szS l0 1048576 < 0
  · clear hok
    generalize szS l0 1048576 = z at *
    go_enter Try.func7, Try.ntmps7
    go_wp2_with fail
    refine (HZ.out _ HR0.out).mono ?_; rintro e w' ⟨rfl, rfl⟩
    go_wp2_with fail
    go_ret
    exact ⟨rfl, Below.refl _ _⟩
  have g0 : l0.length ≤ 1048576 := by have := (hok (by omega)).1; omega
  have b0 : ∀ s ∈ l0, s.size ≤ 4000000 := fun s hs => by have := (hok (by omega)).2 s hs; omega
  clear hok
  generalize szS l0 1048576 = z at *
  have HS := Lib.hid (fun (W : World) (x0 : Value) (r0 : RdS W x0 l0) (x1 : Value) (r1 : Rd W x1 l1) => mean5_spec W x0 x1 l0 l1 r0 r1 b0)
  have HI := Lib.hid (fun (W : World) (x0 : Value) (r0 : RdS W x0 l0) (x1 : Value) (r1 : Rd W x1 l1) => mean5_impl W x0 x1 l0 l1 r0 r1 b0)
  have fR0_0 := Lib.hid (r0)
  have fR1_0 := Lib.hid (RdB.of r1)
  clear k0 r0 b0 k1 r1
  generalize hz0n : mlN l0 l1 = y0n at HS HI
  clear hz0n
  generalize hz0d : mlD l0 l1 = y0d at HS HI
  clear hz0d
  generalize hz1 : mlOk l0 l1 = y1 at HS HI
  clear hz1
  cases y1
  all_goals
    have G0 := Lib.hid g0
    clear g0
    have G1 := Lib.hid g1
    clear g1
    go_enter Try.func7, Try.ntmps7
    have B0 := Lib.hid (Below.refl w.heap.size w)
    go_wp2_with fail
    refine (HZ.out _ HR0.out).mono ?_; rintro e w' ⟨rfl, rfl⟩
    clear HR0
    go_wp2_with fail
    refine (toStringS_any _ _ l0 fR0_0.out (by have := G0.out; omega)).mono ?_; rintro e u1 ⟨yv0, rfl, ho1_Y0, hb1⟩
    have lo_Y0 := Lib.hid (B0.out.size)
    have fR0_1 := Lib.hid (fR0_0.out.keep hb1)
    have fR1_1 := Lib.hid (fR1_0.out.keep hb1)
    have B1 := Lib.hid (B0.out.trans (hb1.mono B0.out.size))
    have fY0_1 := Lib.hid (OwnT.rds ho1_Y0)
    clear hb1 ho1_Y0 fR0_0 fR1_0 B0
    go_wp2_with fail
    refine (toInt64S_any _ _ l1 fR1_1.out.rd (by have := G1.out; omega)).mono ?_; rintro e u2 ⟨yv1, rfl, ho2_Y1, hb2⟩
    have d_R1_Y1 := Lib.hid (fR1_1.out.2.2)
    have lo_Y1 := Lib.hid (B1.out.size)
    have fR0_2 := Lib.hid (fR0_1.out.keep hb2)
    have fR1_2 := Lib.hid (fR1_1.out.keep hb2)
    have fY0_2 := Lib.hid (fY0_1.out.keep hb2)
    have B2 := Lib.hid (B1.out.trans (hb2.mono B1.out.size))
    have fY1_2 := Lib.hid (OwnIn.of ho2_Y1)
    clear hb2 ho2_Y1 fR0_1 fR1_1 fY0_1 B1
    go_wp2_with fail
    refine (HS.out _ _ fY0_2.out _ fY1_2.out.rd).mono ?_; rintro e u3 ⟨rfl, hb3⟩
    have fR0_3 := Lib.hid (fR0_2.out.keep hb3)
    have fR1_3 := Lib.hid (fR1_2.out.keep hb3)
    have fY0_3 := Lib.hid (fY0_2.out.keep hb3)
    have fY1_3 := Lib.hid (fY1_2.out.keep hb3)
    have B3 := Lib.hid (B2.out.trans (hb3.mono B2.out.size))
    clear hb3  fR0_2 fR1_2 fY0_2 fY1_2 B2
    obtain ⟨V3, hV3⟩ : ∃ V, V = u3.alloc (.cells #[.int .i64 y0n, .int .i64 y0d] 28) := ⟨_, rfl⟩
    have kb3 : Below u3.heap.size u3 V3 := by rw [hV3]; exact (Below.refl _ _).alloc (Nat.le_refl _) _
    have bx3 : Bk V3 u3.heap.size [.int .i64 y0n, .int .i64 y0d] := by rw [hV3]; exact Bk.new u3 [.int .i64 y0n, .int .i64 y0d] _ _ rfl
    have fR0_4 := Lib.hid (fR0_3.out.keep kb3)
    have fR1_4 := Lib.hid (fR1_3.out.keep kb3)
    have fY0_4 := Lib.hid (fY0_3.out.keep kb3)
    have fY1_4 := Lib.hid (fY1_3.out.keep kb3)
    have B4 := Lib.hid (B3.out.trans (kb3.mono B3.out.size))
    have fFS0_4 := Lib.hid bx3
    have HV3 := Lib.hid hV3
    clear kb3 bx3 hV3 fR0_3 fR1_3 fY0_3 fY1_3 B3
    clear fY0_4
    clear fY1_4
    go_wp2_with fail
    rw [← HV3.out]
    refine (toStringS_any _ _ l0 fR0_4.out (by have := G0.out; omega)).mono ?_; rintro e u5 ⟨xv0, rfl, ho5_X0, hb5⟩
    have lo_X0 := Lib.hid (B4.out.size)
    have fR0_5 := Lib.hid (fR0_4.out.keep hb5)
    have fR1_5 := Lib.hid (fR1_4.out.keep hb5)
    have fFS0_5 := Lib.hid (fFS0_4.out.keep hb5)
    have B5 := Lib.hid (B4.out.trans (hb5.mono B4.out.size))
    have fX0_5 := Lib.hid (OwnT.rds ho5_X0)
    clear hb5 ho5_X0 fR0_4 fR1_4 fFS0_4 B4
    go_wp2_with fail
    refine (toInt64S_any _ _ l1 fR1_5.out.rd (by have := G1.out; omega)).mono ?_; rintro e u6 ⟨xv1, rfl, ho6_X1, hb6⟩
    have d_R1_X1 := Lib.hid (fR1_5.out.2.2)
    have d_FS0_X1 := Lib.hid (fFS0_5.out.2.2)
    have lo_X1 := Lib.hid (B5.out.size)
    have fR0_6 := Lib.hid (fR0_5.out.keep hb6)
    have fR1_6 := Lib.hid (fR1_5.out.keep hb6)
    have fFS0_6 := Lib.hid (fFS0_5.out.keep hb6)
    have fX0_6 := Lib.hid (fX0_5.out.keep hb6)
    have B6 := Lib.hid (B5.out.trans (hb6.mono B5.out.size))
    have fX1_6 := Lib.hid (OwnIn.of ho6_X1)
    clear hb6 ho6_X1 fR0_5 fR1_5 fFS0_5 fX0_5 B5
    go_wp2_with fail
    refine (HI.out _ _ fX0_6.out _ fX1_6.out.rd).mono ?_; rintro e u7 ⟨rfl, hb7⟩
    have fR0_7 := Lib.hid (fR0_6.out.keep hb7)
    have fR1_7 := Lib.hid (fR1_6.out.keep hb7)
    have fFS0_7 := Lib.hid (fFS0_6.out.keep hb7)
    have fX0_7 := Lib.hid (fX0_6.out.keep hb7)
    have fX1_7 := Lib.hid (fX1_6.out.keep hb7)
    have B7 := Lib.hid (B6.out.trans (hb7.mono B6.out.size))
    clear hb7  fR0_6 fR1_6 fFS0_6 fX0_6 fX1_6 B6
    obtain ⟨V7, hV7⟩ : ∃ V, V = u7.alloc (.cells #[.int .i64 y0n, .int .i64 y0d] 28) := ⟨_, rfl⟩
    have kb7 : Below u7.heap.size u7 V7 := by rw [hV7]; exact (Below.refl _ _).alloc (Nat.le_refl _) _
    have bx7 : Bk V7 u7.heap.size [.int .i64 y0n, .int .i64 y0d] := by rw [hV7]; exact Bk.new u7 [.int .i64 y0n, .int .i64 y0d] _ _ rfl
    have fR0_8 := Lib.hid (fR0_7.out.keep kb7)
    have fR1_8 := Lib.hid (fR1_7.out.keep kb7)
    have fFS0_8 := Lib.hid (fFS0_7.out.keep kb7)
    have fX0_8 := Lib.hid (fX0_7.out.keep kb7)
    have fX1_8 := Lib.hid (fX1_7.out.keep kb7)
    have B8 := Lib.hid (B7.out.trans (kb7.mono B7.out.size))
    have fFG0_8 := Lib.hid bx7
    have HV7 := Lib.hid hV7
    clear kb7 bx7 hV7 fR0_7 fR1_7 fFS0_7 fX0_7 fX1_7 B7
    obtain ⟨qg0, qg1⟩ := bk_two2 fFG0_8.out
    obtain ⟨qf0, qf1⟩ := bk_two2 fFS0_8.out
    rw [HV7.out] at qg0 qg1 qf0 qf1
    go_wp2_with fail
    rw [← HV7.out]
    refine (eqFraction_yes _ _ _).mono ?_; rintro e u9 ⟨rfl, hb9⟩
    have fR0_9 := Lib.hid (fR0_8.out.keep hb9)
    have fR1_9 := Lib.hid (fR1_8.out.keep hb9)
    have fFS0_9 := Lib.hid (fFS0_8.out.keep hb9)
    have fX0_9 := Lib.hid (fX0_8.out.keep hb9)
    have fX1_9 := Lib.hid (fX1_8.out.keep hb9)
    have fFG0_9 := Lib.hid (fFG0_8.out.keep hb9)
    have B9 := Lib.hid (B8.out.trans (hb9.mono B8.out.size))
    clear hb9  fR0_8 fR1_8 fFS0_8 fX0_8 fX1_8 fFG0_8 B8
    clear qg0 qg1 qf0 qf1
    go_wp2_with fail
    refine (toStringS_any _ _ l0 fR0_9.out (by have := G0.out; omega)).mono ?_; rintro e u10 ⟨zv0, rfl, ho10_Z0, hb10⟩
    have lo_Z0 := Lib.hid (B9.out.size)
    have fR0_10 := Lib.hid (fR0_9.out.keep hb10)
    have fR1_10 := Lib.hid (fR1_9.out.keep hb10)
    have fFS0_10 := Lib.hid (fFS0_9.out.keep hb10)
    have fX0_10 := Lib.hid (fX0_9.out.keep hb10)
    have fX1_10 := Lib.hid (fX1_9.out.keep hb10)
    have fFG0_10 := Lib.hid (fFG0_9.out.keep hb10)
    have B10 := Lib.hid (B9.out.trans (hb10.mono B9.out.size))
    have fZ0_10 := Lib.hid (OwnT.rds ho10_Z0)
    clear hb10 ho10_Z0 fR0_9 fR1_9 fFS0_9 fX0_9 fX1_9 fFG0_9 B9
    go_wp2_with fail
    refine (eqStringS_rd _ _ _ l0 fX0_10.out fZ0_10.out).mono ?_; rintro e u11 ⟨rfl, q11, rfl⟩
    have fR0_11 := Lib.hid (fR0_10.out.drewN q11)
    have fR1_11 := Lib.hid (fR1_10.out.drewN q11)
    have fFS0_11 := Lib.hid (fFS0_10.out.drewN q11)
    have fX0_11 := Lib.hid (fX0_10.out.drewN q11)
    have fX1_11 := Lib.hid (fX1_10.out.drewN q11)
    have fFG0_11 := Lib.hid (fFG0_10.out.drewN q11)
    have fZ0_11 := Lib.hid (fZ0_10.out.drewN q11)
    have B11 := Lib.hid (below_drewN B10.out q11)
    clear fR0_10 fR1_10 fFS0_10 fX0_10 fX1_10 fFG0_10 fZ0_10 B10
    clear fZ0_11
    go_wp2_with fail
    refine (toInt64S_any _ _ l1 fR1_11.out.rd (by have := G1.out; omega)).mono ?_; rintro e u12 ⟨zv1, rfl, ho12_Z1, hb12⟩
    have d_R1_Z1 := Lib.hid (fR1_11.out.2.2)
    have d_FS0_Z1 := Lib.hid (fFS0_11.out.2.2)
    have d_X1_Z1 := Lib.hid (fX1_11.out.2.2)
    have d_FG0_Z1 := Lib.hid (fFG0_11.out.2.2)
    have lo_Z1 := Lib.hid (B11.out.size)
    have fR0_12 := Lib.hid (fR0_11.out.keep hb12)
    have fR1_12 := Lib.hid (fR1_11.out.keep hb12)
    have fFS0_12 := Lib.hid (fFS0_11.out.keep hb12)
    have fX0_12 := Lib.hid (fX0_11.out.keep hb12)
    have fX1_12 := Lib.hid (fX1_11.out.keep hb12)
    have fFG0_12 := Lib.hid (fFG0_11.out.keep hb12)
    have B12 := Lib.hid (B11.out.trans (hb12.mono B11.out.size))
    have fZ1_12 := Lib.hid (OwnIn.of ho12_Z1)
    clear hb12 ho12_Z1 fR0_11 fR1_11 fFS0_11 fX0_11 fX1_11 fFG0_11 B11
    go_wp2_with fail
    refine (eqInt64S_rd _ _ _ l1 fX1_12.out.rd fZ1_12.out.rd).mono ?_; rintro e u13 ⟨rfl, q13, rfl⟩
    have fR0_13 := Lib.hid (fR0_12.out.drewN q13)
    have fR1_13 := Lib.hid (fR1_12.out.drewN q13)
    have fFS0_13 := Lib.hid (fFS0_12.out.drewN q13)
    have fX0_13 := Lib.hid (fX0_12.out.drewN q13)
    have fX1_13 := Lib.hid (fX1_12.out.drewN q13)
    have fFG0_13 := Lib.hid (fFG0_12.out.drewN q13)
    have fZ1_13 := Lib.hid (fZ1_12.out.drewN q13)
    have B13 := Lib.hid (below_drewN B12.out q13)
    clear fR0_12 fR1_12 fFS0_12 fX0_12 fX1_12 fFG0_12 fZ1_12 B12
    clear fZ1_13
    go_wp2_with fail
    go_ret
    exact ⟨rfl, B13.out⟩
end Go.Proofs.Ytijmfienaoeboaa
