/- The walk of the law FnExactKraftSum. -/
import Derived.Test.YtijmfienaoeboaaKrs
import Derived.Test.YtijmfienaoeboaaRs
namespace Go.Proofs.Ytijmfienaoeboaa
open Go Go.RowKit
set_option linter.unusedVariables false

set_option maxHeartbeats 1600000 in
set_option maxRecDepth 100000 in
theorem law_FnExactKraftSum (v0 : Value) (l0 : List ByteArray) (k0 : ∀ s ∈ l0, s.size ≤ maxLen) (w : World) (r0 : RdS w v0 l0) :
    Calls Try.prog 5 #[v0] w fun e w' => e = .returned (.bool true) ∧ Below w.heap.size w w' := by
  have HZ := Lib.hid (fun W (h : RdS W v0 l0) => szStringS_any W v0 l0 1048576 h k0 (by decide) (by decide))
  have hok := szS_ok l0 1048576
  have HR0 := Lib.hid (r0)
  by_cases hz : szS l0 1048576 < 0
  · clear hok
    generalize szS l0 1048576 = z at *
    go_enter Try.func5, Try.ntmps5
    go_wp2_with fail
    refine (HZ.out _ HR0.out).mono ?_; rintro e w' ⟨rfl, rfl⟩
    go_wp2_with fail
    go_ret
    exact ⟨rfl, Below.refl _ _⟩
  have g0 : l0.length ≤ 1048576 := by have := (hok (by omega)).1; omega
  have b0 : ∀ s ∈ l0, s.size ≤ 4000000 := fun s hs => by have := (hok (by omega)).2 s hs; omega
  clear hok
  generalize szS l0 1048576 = z at *
  have HS := Lib.hid (fun (W : World) (x0 : Value) (r0 : RdS W x0 l0) => kraft_spec W x0 l0 r0 b0)
  have HI := Lib.hid (fun (W : World) (x0 : Value) (r0 : RdS W x0 l0) => kraft_impl W x0 l0 r0 b0)
  have fR0_0 := Lib.hid (r0)
  clear k0 r0 b0
  generalize hz0n : krN l0 = y0n at HS HI
  clear hz0n
  generalize hz0d : krD l0 = y0d at HS HI
  clear hz0d
  generalize hz1 : cdOk l0 = y1 at HS HI
  clear hz1
  cases y1
  all_goals
    have G0 := Lib.hid g0
    clear g0
    go_enter Try.func5, Try.ntmps5
    have B0 := Lib.hid (Below.refl w.heap.size w)
    go_wp2_with fail
    refine (HZ.out _ HR0.out).mono ?_; rintro e w' ⟨rfl, rfl⟩
    clear HR0
    go_wp2_with fail
    refine (toStringS_any _ _ l0 fR0_0.out (by have := G0.out; omega)).mono ?_; rintro e u1 ⟨yv0, rfl, ho1_Y0, hb1⟩
    have lo_Y0 := Lib.hid (B0.out.size)
    have fR0_1 := Lib.hid (fR0_0.out.keep hb1)
    have B1 := Lib.hid (B0.out.trans (hb1.mono B0.out.size))
    have fY0_1 := Lib.hid (OwnT.rds ho1_Y0)
    clear hb1 ho1_Y0 fR0_0 B0
    go_wp2_with fail
    refine (HS.out _ _ fY0_1.out).mono ?_; rintro e u2 ⟨rfl, hb2⟩
    have fR0_2 := Lib.hid (fR0_1.out.keep hb2)
    have fY0_2 := Lib.hid (fY0_1.out.keep hb2)
    have B2 := Lib.hid (B1.out.trans (hb2.mono B1.out.size))
    clear hb2  fR0_1 fY0_1 B1
    obtain ⟨V2, hV2⟩ : ∃ V, V = u2.alloc (.cells #[.int .i64 y0n, .int .i64 y0d] 28) := ⟨_, rfl⟩
    have kb2 : Below u2.heap.size u2 V2 := by rw [hV2]; exact (Below.refl _ _).alloc (Nat.le_refl _) _
    have bx2 : Bk V2 u2.heap.size [.int .i64 y0n, .int .i64 y0d] := by rw [hV2]; exact Bk.new u2 [.int .i64 y0n, .int .i64 y0d] _ _ rfl
    have fR0_3 := Lib.hid (fR0_2.out.keep kb2)
    have fY0_3 := Lib.hid (fY0_2.out.keep kb2)
    have B3 := Lib.hid (B2.out.trans (kb2.mono B2.out.size))
    have fFS0_3 := Lib.hid bx2
    have HV2 := Lib.hid hV2
    clear kb2 bx2 hV2 fR0_2 fY0_2 B2
    clear fY0_3
    go_wp2_with fail
    rw [← HV2.out]
    refine (toStringS_any _ _ l0 fR0_3.out (by have := G0.out; omega)).mono ?_; rintro e u4 ⟨xv0, rfl, ho4_X0, hb4⟩
    have lo_X0 := Lib.hid (B3.out.size)
    have fR0_4 := Lib.hid (fR0_3.out.keep hb4)
    have fFS0_4 := Lib.hid (fFS0_3.out.keep hb4)
    have B4 := Lib.hid (B3.out.trans (hb4.mono B3.out.size))
    have fX0_4 := Lib.hid (OwnT.rds ho4_X0)
    clear hb4 ho4_X0 fR0_3 fFS0_3 B3
    go_wp2_with fail
    refine (HI.out _ _ fX0_4.out).mono ?_; rintro e u5 ⟨rfl, hb5⟩
    have fR0_5 := Lib.hid (fR0_4.out.keep hb5)
    have fFS0_5 := Lib.hid (fFS0_4.out.keep hb5)
    have fX0_5 := Lib.hid (fX0_4.out.keep hb5)
    have B5 := Lib.hid (B4.out.trans (hb5.mono B4.out.size))
    clear hb5  fR0_4 fFS0_4 fX0_4 B4
    obtain ⟨V5, hV5⟩ : ∃ V, V = u5.alloc (.cells #[.int .i64 y0n, .int .i64 y0d] 28) := ⟨_, rfl⟩
    have kb5 : Below u5.heap.size u5 V5 := by rw [hV5]; exact (Below.refl _ _).alloc (Nat.le_refl _) _
    have bx5 : Bk V5 u5.heap.size [.int .i64 y0n, .int .i64 y0d] := by rw [hV5]; exact Bk.new u5 [.int .i64 y0n, .int .i64 y0d] _ _ rfl
    have fR0_6 := Lib.hid (fR0_5.out.keep kb5)
    have fFS0_6 := Lib.hid (fFS0_5.out.keep kb5)
    have fX0_6 := Lib.hid (fX0_5.out.keep kb5)
    have B6 := Lib.hid (B5.out.trans (kb5.mono B5.out.size))
    have fFG0_6 := Lib.hid bx5
    have HV5 := Lib.hid hV5
    clear kb5 bx5 hV5 fR0_5 fFS0_5 fX0_5 B5
    obtain ⟨qg0, qg1⟩ := bk_two2 fFG0_6.out
    obtain ⟨qf0, qf1⟩ := bk_two2 fFS0_6.out
    rw [HV5.out] at qg0 qg1 qf0 qf1
    go_wp2_with fail
    rw [← HV5.out]
    refine (eqFraction_yes _ _ _).mono ?_; rintro e u7 ⟨rfl, hb7⟩
    have fR0_7 := Lib.hid (fR0_6.out.keep hb7)
    have fFS0_7 := Lib.hid (fFS0_6.out.keep hb7)
    have fX0_7 := Lib.hid (fX0_6.out.keep hb7)
    have fFG0_7 := Lib.hid (fFG0_6.out.keep hb7)
    have B7 := Lib.hid (B6.out.trans (hb7.mono B6.out.size))
    clear hb7  fR0_6 fFS0_6 fX0_6 fFG0_6 B6
    clear qg0 qg1 qf0 qf1
    go_wp2_with fail
    refine (toStringS_any _ _ l0 fR0_7.out (by have := G0.out; omega)).mono ?_; rintro e u8 ⟨zv0, rfl, ho8_Z0, hb8⟩
    have lo_Z0 := Lib.hid (B7.out.size)
    have fR0_8 := Lib.hid (fR0_7.out.keep hb8)
    have fFS0_8 := Lib.hid (fFS0_7.out.keep hb8)
    have fX0_8 := Lib.hid (fX0_7.out.keep hb8)
    have fFG0_8 := Lib.hid (fFG0_7.out.keep hb8)
    have B8 := Lib.hid (B7.out.trans (hb8.mono B7.out.size))
    have fZ0_8 := Lib.hid (OwnT.rds ho8_Z0)
    clear hb8 ho8_Z0 fR0_7 fFS0_7 fX0_7 fFG0_7 B7
    go_wp2_with fail
    refine (eqStringS_rd _ _ _ l0 fX0_8.out fZ0_8.out).mono ?_; rintro e u9 ⟨rfl, q9, rfl⟩
    have fR0_9 := Lib.hid (fR0_8.out.drewN q9)
    have fFS0_9 := Lib.hid (fFS0_8.out.drewN q9)
    have fX0_9 := Lib.hid (fX0_8.out.drewN q9)
    have fFG0_9 := Lib.hid (fFG0_8.out.drewN q9)
    have fZ0_9 := Lib.hid (fZ0_8.out.drewN q9)
    have B9 := Lib.hid (below_drewN B8.out q9)
    clear fR0_8 fFS0_8 fX0_8 fFG0_8 fZ0_8 B8
    clear fZ0_9
    go_wp2_with fail
    go_ret
    exact ⟨rfl, B9.out⟩
end Go.Proofs.Ytijmfienaoeboaa
