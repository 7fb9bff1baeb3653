/- The walk of the law FnExactReadLevels. -/
import Derived.Test.YtmhdjimdhcephaaLvN
import Derived.Test.YtmhdjimdhcephaaRd
namespace Go.Proofs.Ytmhdjimdhcephaa
open Go Go.RowKit
set_option linter.unusedVariables false

set_option maxHeartbeats 1600000 in
set_option maxRecDepth 100000 in
theorem law_FnExactReadLevels (a0 : Int) (w0 : (Lit.int .i64 a0).wf = true) (v1 : Value) (l1 : List Int) (k1 : ∀ n ∈ l1, (Lit.int .i64 n).wf = true) (w : World) (r1 : Rd w v1 l1) :
    Calls Try.prog 8 #[.int .i64 a0, v1] w fun e w' => e = .returned (.bool true) ∧ Below w.heap.size w w' := by
  have t1 : l1.length ≤ 9223372036854775807 := by have := r1.len; unfold maxLen at this; exact this
  have q1 := r1
  obtain ⟨A1, n1, c1, rfl, hn1, -, -, -⟩ := q1
  rw [hn1] at t1
  have N1 := Lib.hid hn1
  clear hn1
  by_cases h1 : n1 ≤ 1048576
  rotate_left
  · clear w0 k1 r1
    go_enter Try.func8, Try.ntmps8
    go_wp2_with fail
    go_ret
    exact ⟨rfl, Below.refl _ _⟩
  have g1 : l1.length ≤ 1048576 := by rw [N1.out]; exact h1
  have HS := Lib.hid (fun (W : World) (x1 : Value) (r1 : Rd W x1 l1) => reads_spec a0 W x1 l1 r1)
  have HI := Lib.hid (fun (W : World) (x1 : Value) (r1 : Rd W x1 l1) => reads_impl a0 W x1 l1 r1)
  have fR1_0 := Lib.hid (RdB.of r1)
  clear w0 k1 r1
  generalize hz0 : rdT a0 l1 = y0 at HS HI
  clear hz0
  generalize hz1 : rdOk a0 l1 = y1 at HS HI
  clear hz1
  cases y1
  all_goals
    have G1 := Lib.hid g1
    clear g1
    go_enter Try.func8, Try.ntmps8
    have B0 := Lib.hid (Below.refl w.heap.size w)
    go_wp2_with fail
    refine (toInt64S_any _ _ l1 fR1_0.out.rd (by have := G1.out; omega)).mono ?_; rintro e u1 ⟨yv1, rfl, ho1_Y1, hb1⟩
    have d_R1_Y1 := Lib.hid (fR1_0.out.2.2)
    have lo_Y1 := Lib.hid (B0.out.size)
    have fR1_1 := Lib.hid (fR1_0.out.keep hb1)
    have B1 := Lib.hid (B0.out.trans (hb1.mono B0.out.size))
    have fY1_1 := Lib.hid (OwnIn.of ho1_Y1)
    clear hb1 ho1_Y1 fR1_0 B0
    go_wp2_with fail
    refine (HS.out _ _ fY1_1.out.rd).mono ?_; rintro e u2 ⟨rfl, hb2⟩
    have fR1_2 := Lib.hid (fR1_1.out.keep hb2)
    have fY1_2 := Lib.hid (fY1_1.out.keep hb2)
    have B2 := Lib.hid (B1.out.trans (hb2.mono B1.out.size))
    clear hb2  fR1_1 fY1_1 B1
    clear fY1_2
    go_wp2_with fail
    refine (toInt64S_any _ _ l1 fR1_2.out.rd (by have := G1.out; omega)).mono ?_; rintro e u3 ⟨xv1, rfl, ho3_X1, hb3⟩
    have d_R1_X1 := Lib.hid (fR1_2.out.2.2)
    have lo_X1 := Lib.hid (B2.out.size)
    have fR1_3 := Lib.hid (fR1_2.out.keep hb3)
    have B3 := Lib.hid (B2.out.trans (hb3.mono B2.out.size))
    have fX1_3 := Lib.hid (OwnIn.of ho3_X1)
    clear hb3 ho3_X1 fR1_2 B2
    go_wp2_with fail
    refine (HI.out _ _ fX1_3.out.rd).mono ?_; rintro e u4 ⟨rfl, hb4⟩
    have fR1_4 := Lib.hid (fR1_3.out.keep hb4)
    have fX1_4 := Lib.hid (fX1_3.out.keep hb4)
    have B4 := Lib.hid (B3.out.trans (hb4.mono B3.out.size))
    clear hb4  fR1_3 fX1_3 B3
    go_wp2_with fail
    refine (toInt64S_any _ _ l1 fR1_4.out.rd (by have := G1.out; omega)).mono ?_; rintro e u5 ⟨zv1, rfl, ho5_Z1, hb5⟩
    have d_R1_Z1 := Lib.hid (fR1_4.out.2.2)
    have d_X1_Z1 := Lib.hid (fX1_4.out.2.2)
    have lo_Z1 := Lib.hid (B4.out.size)
    have fR1_5 := Lib.hid (fR1_4.out.keep hb5)
    have fX1_5 := Lib.hid (fX1_4.out.keep hb5)
    have B5 := Lib.hid (B4.out.trans (hb5.mono B4.out.size))
    have fZ1_5 := Lib.hid (OwnIn.of ho5_Z1)
    clear hb5 ho5_Z1 fR1_4 fX1_4 B4
    go_wp2_with fail
    refine (eqInt64S_rd _ _ _ l1 fX1_5.out.rd fZ1_5.out.rd).mono ?_; rintro e u6 ⟨rfl, q6, rfl⟩
    have fR1_6 := Lib.hid (fR1_5.out.drewN q6)
    have fX1_6 := Lib.hid (fX1_5.out.drewN q6)
    have fZ1_6 := Lib.hid (fZ1_5.out.drewN q6)
    have B6 := Lib.hid (below_dn B5.out q6)
    clear fR1_5 fX1_5 fZ1_5 B5
    clear fZ1_6
    go_wp2_with fail
    go_ret
    exact ⟨rfl, B6.out⟩
end Go.Proofs.Ytmhdjimdhcephaa
