/- The walk of the law FnExactSumGraph. -/
import Derived.Test.YtnllllpdjfbedaaGq
namespace Go.Proofs.Ytnllllpdjfbedaa
open Go Go.RowKit
set_option linter.unusedVariables false

set_option maxHeartbeats 1600000 in
set_option maxRecDepth 100000 in
theorem law_FnExactSumGraph (a0 : Int) (w0 : (Lit.int .i64 a0).wf = true) (w : World) :
    Calls Try.prog 5 #[.int .i64 a0] w fun e w' => e = .returned (.bool true) ∧ Below w.heap.size w w' := by
  have HS := Lib.hid (fun W : World => sumGraph_spec W a0)
  have HI := Lib.hid (fun W : World => sumGraph_impl W a0)
  obtain ⟨hs1, hs2⟩ := sg_small a0
  clear w0
  generalize sgG a0 = g at *
  have HM := Lib.hid (fun (W : World) (lo hi : Nat) (v : Value) (us : List Value) (h : OwnG W lo hi v us g) => markGraph_any W lo hi v us g 1 (by omega) (by omega) hs1 hs2 h)
  have HH := Lib.hid (fun (W : World) (lo hi : Nat) (v : Value) (us : List Value) (h : OwnG W lo hi v us (marksSS 1 g)) => heldGraph_any W lo hi v us g 1 (by omega) (by omega) hs1 hs2 h)
  obtain ⟨T, hT⟩ : ∃ T : Int, T = 1 + (tot g : Nat) := ⟨_, rfl⟩
  rw [← hT] at HM HH
  have T0 : 0 ≤ T := by omega
  clear hT hs1 hs2
  generalize sgOk a0 = x1 at *
  cases x1
  all_goals
    go_enter Try.func5, Try.ntmps5
    go_wp2_with fail
    refine (HS.out _).mono ?_; rintro e u1 ⟨v0, us0, rfl, ho1, hb1⟩
    obtain ⟨A0, n0, c0, rfl⟩ := rdg_sh ho1.rdg
    have L1 := Lib.hid (LA.of 27 ho1 hb1)
    clear ho1 hb1
    go_wp2_with fail
    refine (HI.out _).mono ?_; rintro e u2 ⟨v1, us1, rfl, ho2, hb2⟩
    obtain ⟨A1, n1, c1, rfl⟩ := rdg_sh ho2.rdg
    have L2 := Lib.hid (LB.of 27 L1.out ho2 hb2)
    have q5 := L2.out.la.o5.1
    have q7 := L2.out.o7.1
    clear ho2 hb2 L1
    go_wp2_with fail
    refine (eqGraph_rd _ _ _ g L2.out.g1.rdg L2.out.la.g0.rdg).mono ?_; rintro e u3 ⟨rfl, hb3⟩
    have L3 := Lib.hid (L2.out.keep hb3)
    clear hb3 q5 q7
    have q7 := L3.out.o7.1
    go_wp2_with fail
    clear q7
    refine (HM.out _ _ _ _ _ L3.out.g1).mono ?_; rintro e u4 ⟨rfl, ho4, u4', rfl, hc4⟩
    have L4 := Lib.hid ((L3.out.keep ((Below.refl _ _).alloc (Nat.le_refl _) _)).chg hc4 ho4)
    clear ho4 hc4 L3 L2
    have q7 := L4.out.o7.1
    go_wp2_with fail
    clear q7
    refine (HH.out _ _ _ _ _ L4.out.g1).mono ?_; rintro e u5 ⟨rfl, hb5⟩
    have L5 := Lib.hid (L4.out.keep hb5)
    clear hb5 L4
    go_wp2_with fail
    refine (HI.out _).mono ?_; rintro e u6 ⟨v2, us2, rfl, ho6, hb6⟩
    obtain ⟨A2, n2, c2, rfl⟩ := rdg_sh ho6.rdg
    have kb := (Below.refl u6.heap.size u6).alloc (Nat.le_refl _) (.cells #[.slice A2 n2 c2] 27)
    have L6 := Lib.hid ((L5.out.keep hb6).keep kb)
    have R6 := Lib.hid (ho6.keep kb).rdg
    clear ho6 hb6 kb L5
    have q5 := L6.out.la.o5.1
    go_wp2_with fail
    clear q5
    refine (eqGraph_rd _ _ _ g R6.out L6.out.la.g0.rdg).mono ?_; rintro e u7 ⟨rfl, hb7⟩
    have L7 := Lib.hid (L6.out.keep hb7)
    clear hb7 L6 R6
    have q7 := L7.out.o7.1
    go_wp2_with fail
    clear q7
    refine (HH.out _ _ _ _ _ L7.out.g1).mono ?_; rintro e u8 ⟨rfl, hb8⟩
    have L8 := Lib.hid (L7.out.keep hb8)
    clear hb8 L7
    go_wp2_with fail
    go_ret
    exact ⟨rfl, L8.out.la.B⟩
end Go.Proofs.Ytnllllpdjfbedaa
