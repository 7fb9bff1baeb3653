/- The walk of the law FnExactFrameBits. -/
import Derived.Test.YtllkojakeoennaaFri
import Derived.Test.YtllkojakeoennaaRs
import Derived.Test.YtllkojakeoennaaStf
namespace Go.Proofs.Ytllkojakeoennaa
open Go Go.RowKit
set_option linter.unusedVariables false

set_option maxHeartbeats 1600000 in
set_option maxRecDepth 100000 in
theorem law_FnExactFrameBits (a0 : Int) (w0 : (Lit.int .i64 a0).wf = true) (b0 : Int) (u0 : (Lit.int .i64 b0).wf = true) (v1 : Value) (l1 : List ByteArray) (k1 : ∀ s ∈ l1, s.size ≤ maxLen) (w : World) (r1 : RdS w v1 l1) :
    Calls Try.prog 7 #[.agg #[.int .i64 a0, .int .i64 b0], v1] w fun e w' => e = .returned (.bool true) ∧ Below w.heap.size w w' := by
  obtain ⟨W0, hW0⟩ : ∃ W0, W0 = w.alloc (.cells #[.int .i64 a0, .int .i64 b0] 23) := ⟨_, rfl⟩
  have HW := Lib.hid hW0
  have HBB : Hid (Below w.heap.size w W0) := by show Below _ _ _; rw [hW0]; exact (Below.refl _ _).alloc (Nat.le_refl _) _
  have HO0 : Hid (Bk W0 w.heap.size [.int .i64 a0, .int .i64 b0]) := by show Bk _ _ _; rw [hW0]; exact Bk.new w [.int .i64 a0, .int .i64 b0] _ _ rfl
  clear hW0
  have HZ := Lib.hid (fun W (h : RdS W v1 l1) => szStringS_any W v1 l1 1048576 h k1 (by decide) (by decide))
  have hok := szS_ok l1 1048576
  have HR0 := Lib.hid (r1.keep HBB.out)
  by_cases hz : szS l1 1048576 < 0
  · clear hok
    generalize szS l1 1048576 = z at *
    go_enter Try.func7, Try.ntmps7
    go_wp2_with fail
    rw [← HW.out]
    refine (HZ.out _ HR0.out).mono ?_; rintro e w' ⟨rfl, rfl⟩
    go_wp2_with fail
    go_ret
    exact ⟨rfl, HBB.out⟩
  have g1 : l1.length ≤ 1048576 := by have := (hok (by omega)).1; omega
  clear hok
  generalize szS l1 1048576 = z at *
  have HS := Lib.hid (fun (W : World) (x1 : Value) (r1 : RdS W x1 l1) => frameBits_spec W a0 b0 x1 l1 r1 k1)
  have HI := Lib.hid (fun (W : World) (x1 : Value) (r1 : RdS W x1 l1) => frameBits_impl W a0 b0 x1 l1 r1 k1)
  have fR1_0 := Lib.hid ((r1.keep HBB.out))
  clear w0 u0 k1 r1
  generalize hz0 : fbV a0 b0 l1 = y0 at HS HI
  clear hz0
  generalize hz1 : fbOk a0 b0 l1 = y1 at HS HI
  clear hz1
  cases y1
  all_goals
    have G1 := Lib.hid g1
    clear g1
    go_enter Try.func7, Try.ntmps7
    have B0 := Lib.hid (Below.refl W0.heap.size W0)
    go_wp2_with fail
    rw [← HW.out]
    refine (HZ.out _ HR0.out).mono ?_; rintro e w' ⟨rfl, rfl⟩
    clear HR0
    obtain ⟨qs0, qs1⟩ := bk_two (HO0.out.keep B0.out)
    go_wp2_with fail
    refine (toStuffer_any _ _ _).mono ?_; rintro e u1 ⟨rfl, hb1⟩
    have fR1_1 := Lib.hid (fR1_0.out.keep hb1)
    have B1 := Lib.hid (B0.out.trans (hb1.mono B0.out.size))
    clear hb1  fR1_0 B0
    clear qs0 qs1
    go_wp2_with fail
    refine (toStringS_any _ _ l1 fR1_1.out (by have := G1.out; omega)).mono ?_; rintro e u2 ⟨yv1, rfl, ho2_Y1, hb2⟩
    have lo_Y1 := Lib.hid (B1.out.size)
    have fR1_2 := Lib.hid (fR1_1.out.keep hb2)
    have B2 := Lib.hid (B1.out.trans (hb2.mono B1.out.size))
    have fY1_2 := Lib.hid (OwnT.rds ho2_Y1)
    clear hb2 ho2_Y1 fR1_1 B1
    go_wp2_with fail
    refine (HS.out _ _ fY1_2.out).mono ?_; rintro e u3 ⟨rfl, hb3⟩
    have fR1_3 := Lib.hid (fR1_2.out.keep hb3)
    have fY1_3 := Lib.hid (fY1_2.out.keep hb3)
    have B3 := Lib.hid (B2.out.trans (hb3.mono B2.out.size))
    clear hb3  fR1_2 fY1_2 B2
    clear fY1_3
    go_wp2_with fail
    refine (toStringS_any _ _ l1 fR1_3.out (by have := G1.out; omega)).mono ?_; rintro e u4 ⟨xv1, rfl, ho4_X1, hb4⟩
    have lo_X1 := Lib.hid (B3.out.size)
    have fR1_4 := Lib.hid (fR1_3.out.keep hb4)
    have B4 := Lib.hid (B3.out.trans (hb4.mono B3.out.size))
    have fX1_4 := Lib.hid (OwnT.rds ho4_X1)
    clear hb4 ho4_X1 fR1_3 B3
    obtain ⟨qs0, qs1⟩ := bk_two (HO0.out.keep B4.out)
    go_wp2_with fail
    refine (toStuffer_any _ _ _).mono ?_; rintro e u5 ⟨rfl, hb5⟩
    have fR1_5 := Lib.hid (fR1_4.out.keep hb5)
    have fX1_5 := Lib.hid (fX1_4.out.keep hb5)
    have B5 := Lib.hid (B4.out.trans (hb5.mono B4.out.size))
    clear hb5  fR1_4 fX1_4 B4
    clear qs0 qs1
    go_wp2_with fail
    refine (HI.out _ _ fX1_5.out).mono ?_; rintro e u6 ⟨rfl, hb6⟩
    have fR1_6 := Lib.hid (fR1_5.out.keep hb6)
    have fX1_6 := Lib.hid (fX1_5.out.keep hb6)
    have B6 := Lib.hid (B5.out.trans (hb6.mono B5.out.size))
    clear hb6  fR1_5 fX1_5 B5
    go_wp2_with fail
    refine (toStringS_any _ _ l1 fR1_6.out (by have := G1.out; omega)).mono ?_; rintro e u7 ⟨zv1, rfl, ho7_Z1, hb7⟩
    have lo_Z1 := Lib.hid (B6.out.size)
    have fR1_7 := Lib.hid (fR1_6.out.keep hb7)
    have fX1_7 := Lib.hid (fX1_6.out.keep hb7)
    have B7 := Lib.hid (B6.out.trans (hb7.mono B6.out.size))
    have fZ1_7 := Lib.hid (OwnT.rds ho7_Z1)
    clear hb7 ho7_Z1 fR1_6 fX1_6 B6
    go_wp2_with fail
    refine (eqStringS_rd _ _ _ l1 fX1_7.out fZ1_7.out).mono ?_; rintro e u8 ⟨rfl, q8, rfl⟩
    have fR1_8 := Lib.hid (fR1_7.out.drewN q8)
    have fX1_8 := Lib.hid (fX1_7.out.drewN q8)
    have fZ1_8 := Lib.hid (fZ1_7.out.drewN q8)
    have B8 := Lib.hid (below_drewN B7.out q8)
    clear fR1_7 fX1_7 fZ1_7 B7
    clear fZ1_8
    go_wp2_with fail
    go_ret
    exact ⟨rfl, HBB.out.trans (B8.out.mono HBB.out.size)⟩
end Go.Proofs.Ytllkojakeoennaa
