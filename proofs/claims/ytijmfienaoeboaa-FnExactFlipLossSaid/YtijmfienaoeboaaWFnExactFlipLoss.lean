/- The walk of the law FnExactFlipLoss. -/
import Derived.Test.YtijmfienaoeboaaFlm
import Derived.Test.YtijmfienaoeboaaRs
import Derived.Test.YtijmfienaoeboaaRd
namespace Go.Proofs.Ytijmfienaoeboaa
open Go Go.RowKit
set_option linter.unusedVariables false

set_option maxHeartbeats 1600000 in
set_option maxRecDepth 100000 in
theorem law_FnExactFlipLoss (v0 : Value) (l0 : List ByteArray) (k0 : ∀ s ∈ l0, s.size ≤ maxLen) (v1 : Value) (l1 : List Int) (k1 : ∀ n ∈ l1, (Lit.int .i64 n).wf = true) (a2 : Int) (w2 : (Lit.int .i64 a2).wf = true) (w : World) (r0 : RdS w v0 l0) (r1 : Rd w v1 l1) :
    Calls Try.prog 9 #[v0, v1, .int .i64 a2] w fun e w' => e = .returned (.bool true) ∧ Below w.heap.size w w' := by
  have t1 : l1.length ≤ 9223372036854775807 := by have := r1.len; unfold maxLen at this; exact this
  have q1 := r1
  obtain ⟨A1, n1, c1, rfl, hn1, -, -, -⟩ := q1
  rw [hn1] at t1
  have N1 := Lib.hid hn1
  clear hn1
  by_cases h1 : n1 ≤ 1048576
  rotate_left
  · clear k0 r0 k1 r1 w2
    go_enter Try.func9, Try.ntmps9
    go_wp2_with fail
    go_ret
    exact ⟨rfl, Below.refl _ _⟩
  have g1 : l1.length ≤ 1048576 := by rw [N1.out]; exact h1
  have HZ := Lib.hid (fun W (h : RdS W v0 l0) => szStringS_any W v0 l0 1048576 h k0 (by decide) (by decide))
  have hok := szS_ok l0 1048576
  have HR0 := Lib.hid (r0)
  by_cases hz : szS l0 1048576 < 0
  · clear hok
    generalize szS l0 1048576 = z at *
    go_enter Try.func9, Try.ntmps9
    go_wp2_with fail
    refine (HZ.out _ HR0.out).mono ?_; rintro e w' ⟨rfl, rfl⟩
    go_wp2_with fail
    go_ret
    exact ⟨rfl, Below.refl _ _⟩
  have g0 : l0.length ≤ 1048576 := by have := (hok (by omega)).1; omega
  have b0 : ∀ s ∈ l0, s.size ≤ 4000000 := fun s hs => by have := (hok (by omega)).2 s hs; omega
  clear hok
  generalize szS l0 1048576 = z at *
  have HS := Lib.hid (fun (W : World) (x0 : Value) (r0 : RdS W x0 l0) (x1 : Value) (r1 : Rd W x1 l1) => flip_spec W x0 x1 l0 l1 a2 r0 r1 b0 w2)
  have HI := Lib.hid (fun (W : World) (x0 : Value) (r0 : RdS W x0 l0) (x1 : Value) (r1 : Rd W x1 l1) => flip_impl W x0 x1 l0 l1 a2 r0 r1 b0 w2)
  have fR0_0 := Lib.hid (r0)
  have fR1_0 := Lib.hid (RdB.of r1)
  clear k0 r0 b0 k1 r1 w2
  generalize hz0 : fl1 (flR l0 l1 a2) = y0 at HS HI
  clear hz0
  generalize hz1 : fl2 (flR l0 l1 a2) = y1 at HS HI
  clear hz1
  generalize hz2 : (flR l0 l1 a2).isSome = y2 at HS HI
  clear hz2
  cases y2
  all_goals
    have G0 := Lib.hid g0
    clear g0
    have G1 := Lib.hid g1
    clear g1
    have e0 : (y0 != y0) = false := by simp
    have e1 : (y1 != y1) = false := by simp
    go_enter Try.func9, Try.ntmps9
    have B0 := Lib.hid (Below.refl w.heap.size w)
    go_wp2_with fail
    refine (HZ.out _ HR0.out).mono ?_; rintro e w' ⟨rfl, rfl⟩
    clear HR0
    go_wp2_with fail
    refine (toStringS_any _ _ l0 fR0_0.out (by have := G0.out; omega)).mono ?_; rintro e u1 ⟨yv0, rfl, ho1_Y0, hb1⟩
    have lo_Y0 := Lib.hid (B0.out.size)
    have fR0_1 := Lib.hid (fR0_0.out.keep hb1)
    have fR1_1 := Lib.hid (fR1_0.out.keep hb1)
    have B1 := Lib.hid (B0.out.trans (hb1.mono B0.out.size))
    have fY0_1 := Lib.hid (OwnT.rds ho1_Y0)
    clear hb1 ho1_Y0 fR0_0 fR1_0 B0
    go_wp2_with fail
    refine (toInt64S_any _ _ l1 fR1_1.out.rd (by have := G1.out; omega)).mono ?_; rintro e u2 ⟨yv1, rfl, ho2_Y1, hb2⟩
    have d_R1_Y1 := Lib.hid (fR1_1.out.2.2)
    have lo_Y1 := Lib.hid (B1.out.size)
    have fR0_2 := Lib.hid (fR0_1.out.keep hb2)
    have fR1_2 := Lib.hid (fR1_1.out.keep hb2)
    have fY0_2 := Lib.hid (fY0_1.out.keep hb2)
    have B2 := Lib.hid (B1.out.trans (hb2.mono B1.out.size))
    have fY1_2 := Lib.hid (OwnIn.of ho2_Y1)
    clear hb2 ho2_Y1 fR0_1 fR1_1 fY0_1 B1
    go_wp2_with fail
    refine (HS.out _ _ fY0_2.out _ fY1_2.out.rd).mono ?_; rintro e u3 ⟨rfl, hb3⟩
    have fR0_3 := Lib.hid (fR0_2.out.keep hb3)
    have fR1_3 := Lib.hid (fR1_2.out.keep hb3)
    have fY0_3 := Lib.hid (fY0_2.out.keep hb3)
    have fY1_3 := Lib.hid (fY1_2.out.keep hb3)
    have B3 := Lib.hid (B2.out.trans (hb3.mono B2.out.size))
    clear hb3  fR0_2 fR1_2 fY0_2 fY1_2 B2
    clear fY0_3
    clear fY1_3
    go_wp2_with fail
    refine (toStringS_any _ _ l0 fR0_3.out (by have := G0.out; omega)).mono ?_; rintro e u4 ⟨xv0, rfl, ho4_X0, hb4⟩
    have lo_X0 := Lib.hid (B3.out.size)
    have fR0_4 := Lib.hid (fR0_3.out.keep hb4)
    have fR1_4 := Lib.hid (fR1_3.out.keep hb4)
    have B4 := Lib.hid (B3.out.trans (hb4.mono B3.out.size))
    have fX0_4 := Lib.hid (OwnT.rds ho4_X0)
    clear hb4 ho4_X0 fR0_3 fR1_3 B3
    go_wp2_with fail
    refine (toInt64S_any _ _ l1 fR1_4.out.rd (by have := G1.out; omega)).mono ?_; rintro e u5 ⟨xv1, rfl, ho5_X1, hb5⟩
    have d_R1_X1 := Lib.hid (fR1_4.out.2.2)
    have lo_X1 := Lib.hid (B4.out.size)
    have fR0_5 := Lib.hid (fR0_4.out.keep hb5)
    have fR1_5 := Lib.hid (fR1_4.out.keep hb5)
    have fX0_5 := Lib.hid (fX0_4.out.keep hb5)
    have B5 := Lib.hid (B4.out.trans (hb5.mono B4.out.size))
    have fX1_5 := Lib.hid (OwnIn.of ho5_X1)
    clear hb5 ho5_X1 fR0_4 fR1_4 fX0_4 B4
    go_wp2_with fail
    refine (HI.out _ _ fX0_5.out _ fX1_5.out.rd).mono ?_; rintro e u6 ⟨rfl, hb6⟩
    have fR0_6 := Lib.hid (fR0_5.out.keep hb6)
    have fR1_6 := Lib.hid (fR1_5.out.keep hb6)
    have fX0_6 := Lib.hid (fX0_5.out.keep hb6)
    have fX1_6 := Lib.hid (fX1_5.out.keep hb6)
    have B6 := Lib.hid (B5.out.trans (hb6.mono B5.out.size))
    clear hb6  fR0_5 fR1_5 fX0_5 fX1_5 B5
    go_wp2_with fail
    refine (toStringS_any _ _ l0 fR0_6.out (by have := G0.out; omega)).mono ?_; rintro e u7 ⟨zv0, rfl, ho7_Z0, hb7⟩
    have lo_Z0 := Lib.hid (B6.out.size)
    have fR0_7 := Lib.hid (fR0_6.out.keep hb7)
    have fR1_7 := Lib.hid (fR1_6.out.keep hb7)
    have fX0_7 := Lib.hid (fX0_6.out.keep hb7)
    have fX1_7 := Lib.hid (fX1_6.out.keep hb7)
    have B7 := Lib.hid (B6.out.trans (hb7.mono B6.out.size))
    have fZ0_7 := Lib.hid (OwnT.rds ho7_Z0)
    clear hb7 ho7_Z0 fR0_6 fR1_6 fX0_6 fX1_6 B6
    go_wp2_with fail
    refine (eqStringS_rd _ _ _ l0 fX0_7.out fZ0_7.out).mono ?_; rintro e u8 ⟨rfl, q8, rfl⟩
    have fR0_8 := Lib.hid (fR0_7.out.drewN q8)
    have fR1_8 := Lib.hid (fR1_7.out.drewN q8)
    have fX0_8 := Lib.hid (fX0_7.out.drewN q8)
    have fX1_8 := Lib.hid (fX1_7.out.drewN q8)
    have fZ0_8 := Lib.hid (fZ0_7.out.drewN q8)
    have B8 := Lib.hid (below_drewN B7.out q8)
    clear fR0_7 fR1_7 fX0_7 fX1_7 fZ0_7 B7
    clear fZ0_8
    go_wp2_with fail
    refine (toInt64S_any _ _ l1 fR1_8.out.rd (by have := G1.out; omega)).mono ?_; rintro e u9 ⟨zv1, rfl, ho9_Z1, hb9⟩
    have d_R1_Z1 := Lib.hid (fR1_8.out.2.2)
    have d_X1_Z1 := Lib.hid (fX1_8.out.2.2)
    have lo_Z1 := Lib.hid (B8.out.size)
    have fR0_9 := Lib.hid (fR0_8.out.keep hb9)
    have fR1_9 := Lib.hid (fR1_8.out.keep hb9)
    have fX0_9 := Lib.hid (fX0_8.out.keep hb9)
    have fX1_9 := Lib.hid (fX1_8.out.keep hb9)
    have B9 := Lib.hid (B8.out.trans (hb9.mono B8.out.size))
    have fZ1_9 := Lib.hid (OwnIn.of ho9_Z1)
    clear hb9 ho9_Z1 fR0_8 fR1_8 fX0_8 fX1_8 B8
    go_wp2_with fail
    refine (eqInt64S_rd _ _ _ l1 fX1_9.out.rd fZ1_9.out.rd).mono ?_; rintro e u10 ⟨rfl, q10, rfl⟩
    have fR0_10 := Lib.hid (fR0_9.out.drewN q10)
    have fR1_10 := Lib.hid (fR1_9.out.drewN q10)
    have fX0_10 := Lib.hid (fX0_9.out.drewN q10)
    have fX1_10 := Lib.hid (fX1_9.out.drewN q10)
    have fZ1_10 := Lib.hid (fZ1_9.out.drewN q10)
    have B10 := Lib.hid (below_drewN B9.out q10)
    clear fR0_9 fR1_9 fX0_9 fX1_9 fZ1_9 B9
    clear fZ1_10
    go_wp2_with fail
    go_ret
    exact ⟨rfl, B10.out⟩
end Go.Proofs.Ytijmfienaoeboaa
