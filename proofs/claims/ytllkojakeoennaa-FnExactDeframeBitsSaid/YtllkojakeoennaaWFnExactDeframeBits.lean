/- The walk of the law FnExactDeframeBits. -/
import Derived.Test.YtllkojakeoennaaDfi
import Derived.Test.YtllkojakeoennaaHd
import Derived.Test.YtllkojakeoennaaStf
namespace Go.Proofs.Ytllkojakeoennaa
open Go Go.RowKit
set_option linter.unusedVariables false

set_option maxHeartbeats 1600000 in
set_option maxRecDepth 100000 in
theorem law_FnExactDeframeBits (a0 : Int) (w0 : (Lit.int .i64 a0).wf = true) (b0 : Int) (u0 : (Lit.int .i64 b0).wf = true) (a1 : ByteArray) (w1 : a1.size ≤ maxLen) (w : World) (mx : Int) (hmx : w.cell? ⟨0, 0, none⟩ = some (.int .i64 mx)) :
    Calls Try.prog 8 #[.agg #[.int .i64 a0, .int .i64 b0], .string a1] w fun e w' => e = .returned (.bool true) ∧ Below w.heap.size w w' := by
  obtain ⟨W0, hW0⟩ : ∃ W0, W0 = w.alloc (.cells #[.int .i64 a0, .int .i64 b0] 23) := ⟨_, rfl⟩
  have HW := Lib.hid hW0
  have HBB : Hid (Below w.heap.size w W0) := by show Below _ _ _; rw [hW0]; exact (Below.refl _ _).alloc (Nat.le_refl _) _
  have HO0 : Hid (Bk W0 w.heap.size [.int .i64 a0, .int .i64 b0]) := by show Bk _ _ _; rw [hW0]; exact Bk.new w [.int .i64 a0, .int .i64 b0] _ _ rfl
  clear hW0
  have s1 : a1.size ≤ 9223372036854775807 := by have := w1; unfold maxLen at this; exact this
  by_cases h1 : a1.size ≤ 1048576
  rotate_left
  · clear w0 u0 w1 hmx
    go_enter Try.func8, Try.ntmps8
    go_wp2_with fail
    go_ret
    exact ⟨rfl, (Below.refl _ _).alloc (Nat.le_refl _) _⟩
  have HMX : Hid (∀ W, Below w.heap.size w W → W.cell? ⟨0, 0, none⟩ = some (.int .i64 mx)) := by
    show ∀ W, Below w.heap.size w W → _
    exact fun W hb => (hb.cell (World.block_lt_of_cell? w _ hmx)).trans hmx
  have HI := Lib.hid (fun (W : World) (hmW : W.cell? ⟨0, 0, none⟩ = some (.int .i64 mx)) => deframeBits_impl W a0 b0 a1 w1 mx hmW)
  clear hmx
  have HS := Lib.hid (fun (W : World) => deframeBits_spec W a0 b0 a1 w1)
  have hl : (dfV a0 b0 a1.data.toList).length ≤ 2000000 := Nat.le_trans (dfV_len _ _ _).1 (by decide)
  clear w0 u0 w1
  generalize hz0 : dfV a0 b0 a1.data.toList = y0 at HS HI hl
  clear hz0
  generalize hz1 : dfOk a0 b0 a1.data.toList = y1 at HS HI
  clear hz1
  cases y1
  all_goals
    have m1 : ¬ ((1 : Int) + (y0.length : Int) < 0) := by omega
    have m2 : ((1 : Int) + (y0.length : Int) != 1 + (y0.length : Int)) = false := by simp
    go_enter Try.func8, Try.ntmps8
    have B0 := Lib.hid (Below.refl W0.heap.size W0)
    obtain ⟨qs0, qs1⟩ := bk_two (HO0.out.keep B0.out)
    go_wp2_with fail
    rw [← HW.out]
    refine (toStuffer_any _ _ _).mono ?_; rintro e u1 ⟨rfl, hb1⟩
    have B1 := Lib.hid (B0.out.trans (hb1.mono B0.out.size))
    clear hb1  B0
    clear qs0 qs1
    go_wp2_with fail
    refine (HS.out _).mono ?_; rintro e u2 ⟨sv, rfl, ho2, hb2⟩
    have B2 := Lib.hid (B1.out.trans (hb2.mono B1.out.size))
    have FS2 := Lib.hid ho2
    clear hb2 ho2 B1
    obtain ⟨qs0, qs1⟩ := bk_two (HO0.out.keep B2.out)
    go_wp2_with fail
    refine (toStuffer_any _ _ _).mono ?_; rintro e u3 ⟨rfl, hb3⟩
    have FS3 := Lib.hid (FS2.out.keep hb3)
    have B3 := Lib.hid (B2.out.trans (hb3.mono B2.out.size))
    clear hb3  FS2 B2
    clear qs0 qs1
    go_wp2_with fail
    refine (HI.out _ (HMX.out _ (HBB.out.trans (B3.out.mono HBB.out.size)))).mono ?_; rintro e u4 ⟨gv, rfl, ho4, hb4⟩
    have DA := Lib.hid (apartT_of FS3.out ho4 (Nat.le_refl _))
    have LO := Lib.hid (B3.out.size)
    have FS4 := Lib.hid (FS3.out.keep hb4)
    have B4 := Lib.hid (B3.out.trans (hb4.mono B3.out.size))
    have FG4 := Lib.hid ho4
    clear hb4 ho4 FS3 B3
    go_wp2_with fail
    refine (eqStringS_rd _ _ _ y0 FG4.out.rds FS4.out.rds).mono ?_; rintro e u5 ⟨rfl, q5, rfl⟩
    have FS5 := Lib.hid (OwnT.keep FS4.out (below_drewN (Below.refl _ _) q5))
    have FG5 := Lib.hid (OwnT.keep FG4.out (below_drewN (Below.refl _ _) q5))
    have B5 := Lib.hid (below_drewN B4.out q5)
    clear FS4 FG4 B4
    go_wp2_with fail
    refine (markStringS_any _ _ _ y0 1 (by decide) (by omega) FG5.out).mono ?_; rintro e u6 ⟨rfl, hm6, ht6⟩
    have FG6 := Lib.hid hm6
    have FS6 := Lib.hid (OwnT.mark FS5.out ht6 DA.out)
    have B6 := Lib.hid (below_trn B5.out ht6 FG5.out LO.out B5.out.size)
    clear hm6 ht6 FG5 FS5 B5
    rw [show ((1 + y0.length : Nat) : Int) = 1 + (y0.length : Int) from by omega]
    go_wp2_with fail
    refine (heldStringS_any _ _ _ y0.length 1 (by decide) (by omega) FG6.out).mono ?_; rintro e u7 ⟨rfl, hb7⟩
    have FS7 := Lib.hid (FS6.out.keep hb7)
    have FG7 := Lib.hid (FG6.out.keep hb7)
    have B7 := Lib.hid (B6.out.trans (hb7.mono B6.out.size))
    clear hb7  FS6 FG6 B6
    rw [show ((1 + y0.length : Nat) : Int) = 1 + (y0.length : Int) from by omega]
    obtain ⟨qs0, qs1⟩ := bk_two (HO0.out.keep B7.out)
    go_wp2_with fail
    refine (toStuffer_any _ _ _).mono ?_; rintro e u8 ⟨rfl, hb8⟩
    have FS8 := Lib.hid (FS7.out.keep hb8)
    have FG8 := Lib.hid (FG7.out.keep hb8)
    have B8 := Lib.hid (B7.out.trans (hb8.mono B7.out.size))
    clear hb8  FS7 FG7 B7
    clear qs0 qs1
    go_wp2_with fail
    refine (HI.out _ (HMX.out _ (HBB.out.trans (B8.out.mono HBB.out.size)))).mono ?_; rintro e u9 ⟨hv, rfl, ho9, hb9⟩
    have DH := Lib.hid (apartT_of FG8.out ho9 (Nat.le_refl _))
    have FS9 := Lib.hid (FS8.out.keep hb9)
    have FG9 := Lib.hid (FG8.out.keep hb9)
    have B9 := Lib.hid (B8.out.trans (hb9.mono B8.out.size))
    have FH9 := Lib.hid ho9
    clear hb9 ho9 FS8 FG8 B8
    go_wp2_with fail
    refine (eqStringS_rd _ _ _ y0 FH9.out.rds FS9.out.rds).mono ?_; rintro e u10 ⟨rfl, q10, rfl⟩
    have FS10 := Lib.hid (OwnT.keep FS9.out (below_drewN (Below.refl _ _) q10))
    have FG10 := Lib.hid (OwnT.keep FG9.out (below_drewN (Below.refl _ _) q10))
    have FH10 := Lib.hid (OwnT.keep FH9.out (below_drewN (Below.refl _ _) q10))
    have B10 := Lib.hid (below_drewN B9.out q10)
    clear FS9 FG9 FH9 B9
    go_wp2_with fail
    refine (heldStringS_any _ _ _ y0.length 1 (by decide) (by omega) FG10.out).mono ?_; rintro e u11 ⟨rfl, hb11⟩
    have FS11 := Lib.hid (FS10.out.keep hb11)
    have FG11 := Lib.hid (FG10.out.keep hb11)
    have FH11 := Lib.hid (FH10.out.keep hb11)
    have B11 := Lib.hid (B10.out.trans (hb11.mono B10.out.size))
    clear hb11  FS10 FG10 FH10 B10
    rw [show ((1 + y0.length : Nat) : Int) = 1 + (y0.length : Int) from by omega]
    go_wp2_with fail
    go_ret
    exact ⟨rfl, HBB.out.trans (B11.out.mono HBB.out.size)⟩
end Go.Proofs.Ytllkojakeoennaa
