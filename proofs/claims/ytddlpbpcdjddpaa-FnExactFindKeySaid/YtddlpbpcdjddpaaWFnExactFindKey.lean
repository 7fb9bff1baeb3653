/- The walk of the law FnExactFindKey. -/
import Derived.Test.YtddlpbpcdjddpaaFkS
import Derived.Test.YtddlpbpcdjddpaaRd
namespace Go.Proofs.Ytddlpbpcdjddpaa
open Go Go.RowKit
set_option linter.unusedVariables false

set_option maxHeartbeats 1600000 in
set_option maxRecDepth 100000 in
theorem law_FnExactFindKey (v0 : Value) (l0 : List Int) (k0 : ∀ n ∈ l0, (Lit.int .i64 n).wf = true) (a1 : ByteArray) (w1 : a1.size ≤ maxLen) (a2 : ByteArray) (w2 : a2.size ≤ maxLen) (w : World) (r0 : Rd w v0 l0) :
    Calls Try.prog 7 #[v0, .string a1, .string a2] w fun e w' => e = .returned (.bool true) ∧ Below w.heap.size w w' := by
  have t0 : l0.length ≤ 9223372036854775807 := by have := r0.len; unfold maxLen at this; exact this
  have q0 := r0
  obtain ⟨A0, n0, c0, rfl, hn0, -, -, -⟩ := q0
  rw [hn0] at t0
  have N0 := Lib.hid hn0
  clear hn0
  have s1 : a1.size ≤ 9223372036854775807 := by have := w1; unfold maxLen at this; exact this
  have s2 : a2.size ≤ 9223372036854775807 := by have := w2; unfold maxLen at this; exact this
  by_cases h0 : n0 ≤ 1048576
  rotate_left
  · clear k0 r0 w1 w2
    go_enter Try.func7, Try.ntmps7
    go_wp2_with fail
    go_ret
    exact ⟨rfl, Below.refl _ _⟩
  by_cases h1 : a1.size ≤ 1048576
  rotate_left
  · clear k0 r0 w1 w2
    go_enter Try.func7, Try.ntmps7
    go_wp2_with fail
    go_ret
    exact ⟨rfl, Below.refl _ _⟩
  by_cases h2 : a2.size ≤ 1048576
  rotate_left
  · clear k0 r0 w1 w2
    go_enter Try.func7, Try.ntmps7
    go_wp2_with fail
    go_ret
    exact ⟨rfl, Below.refl _ _⟩
  have g0 : l0.length ≤ 1048576 := by rw [N0.out]; exact h0
  have HS := Lib.hid (fun (W : World) (x0 : Value) (r0 : Rd W x0 l0) => findKey_spec W x0 l0 a1 a2 (fun n hn => i64_bdd (k0 n hn)) w1 w2 r0)
  have HI := Lib.hid (fun (W : World) (x0 : Value) (r0 : Rd W x0 l0) => findKey_impl W x0 l0 a1 a2 (fun n hn => i64_bdd (k0 n hn)) w1 w2 r0)
  have fR0_0 := Lib.hid (RdB.of r0)
  clear k0 r0 w1 w2
  generalize hz0 : fkV l0 a1.data.toList a2.data.toList = y0 at HS HI
  clear hz0
  generalize hz1 : fkOk l0 a1.data.toList a2.data.toList = y1 at HS HI
  clear hz1
  cases y1
  all_goals
    have G0 := Lib.hid g0
    clear g0
    go_enter Try.func7, Try.ntmps7
    have B0 := Lib.hid (Below.refl w.heap.size w)
    go_wp2_with fail
    refine (toInt64S_any _ _ l0 fR0_0.out.rd (by have := G0.out; omega)).mono ?_; rintro e u1 ⟨yv0, rfl, ho1_Y0, hb1⟩
    have d_R0_Y0 := Lib.hid (fR0_0.out.2.2)
    have lo_Y0 := Lib.hid (B0.out.size)
    have fR0_1 := Lib.hid (fR0_0.out.keep hb1)
    have B1 := Lib.hid (B0.out.trans (hb1.mono B0.out.size))
    have fY0_1 := Lib.hid (OwnIn.of ho1_Y0)
    clear hb1 ho1_Y0 fR0_0 B0
    go_wp2_with fail
    refine (HS.out _ _ fY0_1.out.rd).mono ?_; rintro e u2 ⟨rfl, hb2⟩
    have fR0_2 := Lib.hid (fR0_1.out.keep hb2)
    have fY0_2 := Lib.hid (fY0_1.out.keep hb2)
    have B2 := Lib.hid (B1.out.trans (hb2.mono B1.out.size))
    clear hb2  fR0_1 fY0_1 B1
    clear fY0_2
    go_wp2_with fail
    refine (toInt64S_any _ _ l0 fR0_2.out.rd (by have := G0.out; omega)).mono ?_; rintro e u3 ⟨xv0, rfl, ho3_X0, hb3⟩
    have d_R0_X0 := Lib.hid (fR0_2.out.2.2)
    have lo_X0 := Lib.hid (B2.out.size)
    have fR0_3 := Lib.hid (fR0_2.out.keep hb3)
    have B3 := Lib.hid (B2.out.trans (hb3.mono B2.out.size))
    have fX0_3 := Lib.hid (OwnIn.of ho3_X0)
    clear hb3 ho3_X0 fR0_2 B2
    go_wp2_with fail
    refine (HI.out _ _ fX0_3.out.rd).mono ?_; rintro e u4 ⟨rfl, hb4⟩
    have fR0_4 := Lib.hid (fR0_3.out.keep hb4)
    have fX0_4 := Lib.hid (fX0_3.out.keep hb4)
    have B4 := Lib.hid (B3.out.trans (hb4.mono B3.out.size))
    clear hb4  fR0_3 fX0_3 B3
    go_wp2_with fail
    refine (toInt64S_any _ _ l0 fR0_4.out.rd (by have := G0.out; omega)).mono ?_; rintro e u5 ⟨zv0, rfl, ho5_Z0, hb5⟩
    have d_R0_Z0 := Lib.hid (fR0_4.out.2.2)
    have d_X0_Z0 := Lib.hid (fX0_4.out.2.2)
    have lo_Z0 := Lib.hid (B4.out.size)
    have fR0_5 := Lib.hid (fR0_4.out.keep hb5)
    have fX0_5 := Lib.hid (fX0_4.out.keep hb5)
    have B5 := Lib.hid (B4.out.trans (hb5.mono B4.out.size))
    have fZ0_5 := Lib.hid (OwnIn.of ho5_Z0)
    clear hb5 ho5_Z0 fR0_4 fX0_4 B4
    go_wp2_with fail
    refine (eqInt64S_rd _ _ _ l0 fX0_5.out.rd fZ0_5.out.rd).mono ?_; rintro e u6 ⟨rfl, q6, rfl⟩
    have fR0_6 := Lib.hid (fR0_5.out.drewN q6)
    have fX0_6 := Lib.hid (fX0_5.out.drewN q6)
    have fZ0_6 := Lib.hid (fZ0_5.out.drewN q6)
    have B6 := Lib.hid (below_drewN B5.out q6)
    clear fR0_5 fX0_5 fZ0_5 B5
    clear fZ0_6
    go_wp2_with fail
    go_ret
    exact ⟨rfl, B6.out⟩
end Go.Proofs.Ytddlpbpcdjddpaa
