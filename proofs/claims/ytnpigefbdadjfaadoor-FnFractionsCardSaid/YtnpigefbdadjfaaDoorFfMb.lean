/- Several texts in one: Both comparisons, and their law. | Both quotients of fractions. | The program's SubFractions. -/
import Derived.Test.YtnpigefbdadjfaaDoorCmp
import Derived.Test.YtnpigefbdadjfaaDoorMulC
import Derived.Test.YtnpigefbdadjfaaDoorAdJ
namespace Go.Proofs.YtnpigefbdadjfaaDoor
open Go Go.RowKit
set_option linter.unusedVariables false

set_option maxHeartbeats 1600000 in
set_option maxRecDepth 100000 in
theorem cmp_impl (fn fd gn gd : Int) (w : World) (wf1 : -9223372036854775808 ≤ fn) (wf2 : fn ≤ 9223372036854775807) (wg1 : -9223372036854775808 ≤ gn) (wg2 : gn ≤ 9223372036854775807) :
    Calls Tryd.prog 25 #[.agg #[.int .i64 fn, .int .i64 fd], .agg #[.int .i64 gn, .int .i64 gd]] w fun e w' => e = .returned (.tuple #[.int .i64 (cpV fn fd gn gd), .bool (cpB fn fd gn gd)]) ∧ Below w.heap.size w w' := by
  have t0 := Lib.hid (T2.new w (.int .i64 fn) (.int .i64 fd) (.int .i64 gn) (.int .i64 gd) 36)
  cases hf : fIs fn fd
  · have HF := Lib.hid hf
    have hno : ¬ cpOk fn fd gn gd := fun h => by rw [h.1] at hf; cases hf
    have e1 : cpV fn fd gn gd = 0 := if_neg hno
    have e2 : cpB fn fd gn gd = false := decide_eq_false hno
    rw [e1, e2]
    clear e1 e2 hf hno
    go_enter Tryd.func25, Tryd.ntmps25
    go_wp2_with fail
    refine (validFraction_impl _ _ _ wf1 wf2).mono ?_; rintro e w1 ⟨rfl, hb1⟩
    rw [HF.out]
    have t1 := Lib.hid (t0.out.keep hb1)
    clear hb1
    go_wp2_with fail
    go_ret2
    exact ⟨rfl, t1.out.2.2⟩
  · have HF := Lib.hid hf
    cases hg : fIs gn gd
    · have HG := Lib.hid hg
      have hno : ¬ cpOk fn fd gn gd := fun h => by rw [h.2] at hg; cases hg
      have e1 : cpV fn fd gn gd = 0 := if_neg hno
      have e2 : cpB fn fd gn gd = false := decide_eq_false hno
      rw [e1, e2]
      clear e1 e2 hf hg hno
      go_enter Tryd.func25, Tryd.ntmps25
      go_wp2_with fail
      refine (validFraction_impl _ _ _ wf1 wf2).mono ?_; rintro e w1 ⟨rfl, hb1⟩
      rw [HF.out]
      have t1 := Lib.hid (t0.out.keep hb1)
      clear hb1
      have z2 := t1.out.c2
      have z3 := t1.out.c3
      go_wp2_with fail
      refine (validFraction_impl _ _ _ wg1 wg2).mono ?_; rintro e w2 ⟨rfl, hb2⟩
      rw [HG.out]
      have t2 := Lib.hid (t1.out.keep hb2)
      clear hb2 z2 z3
      go_wp2_with fail
      go_ret2
      exact ⟨rfl, t2.out.2.2⟩
    · have HG := Lib.hid hg
      have e1 : cpV fn fd gn gd = sgn (fn * gd + -gn * fd) := if_pos ⟨hf, hg⟩
      have e2 : cpB fn fd gn gd = true := decide_eq_true ⟨hf, hg⟩
      obtain ⟨⟨f3, f4⟩, f1, f2⟩ := fIs_bd hf
      obtain ⟨⟨g3, g4⟩, g1, g2⟩ := fIs_bd hg
      rw [e1, e2]
      clear e1 e2 hf hg
      have hx := mul_bd (fn.natAbs : Int) (gd.natAbs : Int) 1000000000000000000 1000000000000000000 (by omega) (by omega) (by omega) (by omega)
      have hy := mul_bd ((-gn).natAbs : Int) (fd.natAbs : Int) 1000000000000000000 1000000000000000000 (by omega) (by omega) (by omega) (by omega)
      have hx2 := mul_parts fn gd
      have hy2 := mul_parts (-gn) fd
      have ha : Fits (fn * gd + -gn * fd) := by
        generalize (fn.natAbs : Int) * gd.natAbs = p at *
        generalize ((-gn).natAbs : Int) * fd.natAbs = q at *
        generalize fn * gd = x at *
        generalize -gn * fd = y at *
        unfold Fits
        split at hx2 <;> split at hy2 <;> omega
      have HP1 := Lib.hid (fun W => productOf_any fn gd W f1 f2 (by omega) g4)
      have HP2 := Lib.hid (fun W => productOf_any (-gn) fd W (by omega) (by omega) (by omega) f4)
      have HPL := Lib.hid (fun W => plus_any (fn * gd) (-gn * fd) W)
      have HSG := Lib.hid (fun W => sign_any (fn * gd + -gn * fd) W ha)
      have na : IntKind.i64.wrap (-gn) = -gn := IntWalk.i64_in _ (by omega)
      clear hx hy hx2 hy2 ha
      generalize sgn (fn * gd + -gn * fd) = v at *
      generalize fn * gd + -gn * fd = z at *
      generalize fn * gd = x at *
      generalize -gn * fd = y at *
      go_enter Tryd.func25, Tryd.ntmps25
      go_wp2_with fail
      refine (validFraction_impl _ _ _ wf1 wf2).mono ?_; rintro e w1 ⟨rfl, hb1⟩
      rw [HF.out]
      have t1 := Lib.hid (t0.out.keep hb1)
      clear hb1
      have z2 := t1.out.c2
      have z3 := t1.out.c3
      go_wp2_with fail
      refine (validFraction_impl _ _ _ wg1 wg2).mono ?_; rintro e w2 ⟨rfl, hb2⟩
      rw [HG.out]
      have t2 := Lib.hid (t1.out.keep hb2)
      clear hb2 z2 z3
      have z0 := t2.out.c0
      have z1 := t2.out.c1
      have z2 := t2.out.c2
      have z3 := t2.out.c3
      have td := t2.out.drew
      go_wp2_with fail
      go_region_held3 (fun w' => w'.cell? ⟨w.heap.size, 0, none⟩ = some (.int .i64 fn) ∧ w'.cell? ⟨w.heap.size, 1, none⟩ = some (.int .i64 fd) ∧ w'.cell? ⟨w.heap.size + 1, 0, none⟩ = some (.int .i64 gn) ∧ w'.cell? ⟨w.heap.size + 1, 1, none⟩ = some (.int .i64 gd)) ((first | with_reducible assumption | with_reducible exact T2.all td | with_reducible exact T2.all t8 | with_reducible exact T2.all t9 | with_reducible exact T2.all t7 | with_reducible exact T2.all t6 | fail))
        (first
          | (go_at_call_of 73 (Value.int .i64 fn); refine (HP1.out _).mono ?_; rintro e w8 ⟨rfl, hb8⟩; (first | have t8 := T2.keep td hb8 | have t8 := T2.keep t9 hb8); have y0 := t8.c0; have y1 := t8.c1; have y2 := t8.c2; have y3 := t8.c3)
          | (go_at_call_of 73 (Value.int .i64 (-gn)); refine (HP2.out _).mono ?_; rintro e w9 ⟨rfl, hb9⟩; (first | have t9 := T2.keep td hb9 | have t9 := T2.keep t8 hb9); have y0 := t9.c0; have y1 := t9.c1; have y2 := t9.c2; have y3 := t9.c3)
          | (go_at_call 74; refine (HPL.out _).mono ?_; rintro e w7 ⟨rfl, hb7⟩; (first | have t7 := T2.keep t9 hb7 | have t7 := T2.keep t8 hb7); have y0 := t7.c0; have y1 := t7.c1; have y2 := t7.c2; have y3 := t7.c3)
          | (go_at_call 78; refine (HSG.out _).mono ?_; rintro e w6 ⟨rfl, hb6⟩; (first | have t6 := T2.keep t7 hb6); have y0 := t6.c0; have y1 := t6.c1; have y2 := t6.c2; have y3 := t6.c3)
          | fail)
      all_goals
        go_wp2_with fail
        go_ret2
        exact ⟨rfl, t6.2.2⟩
end Go.Proofs.YtnpigefbdadjfaaDoor

namespace Go.Proofs.YtnpigefbdadjfaaDoor
open Go Go.RowKit
set_option linter.unusedVariables false

def dvOk (gn gd : Int) : Prop := fIs gn gd = true ∧ gn ≠ 0
instance (gn gd : Int) : Decidable (dvOk gn gd) := inferInstanceAs (Decidable (_ ∧ _))
def dvN (fn fd gn gd : Int) : Int := if dvOk gn gd then mlN fn fd (mkN gd gn) (mkD gd gn) else 0
def dvD (fn fd gn gd : Int) : Int := if dvOk gn gd then mlD fn fd (mkN gd gn) (mkD gd gn) else 0
def dvB (fn fd gn gd : Int) : Bool := if dvOk gn gd then mlB fn fd (mkN gd gn) (mkD gd gn) else false

/-- A fraction that is turned is one. -/
theorem turned_ok {gn gd : Int} (h : fIs gn gd = true) (h0 : gn ≠ 0) : fIs (mkN gd gn) (mkD gd gn) = true := by
  obtain ⟨g1, g2, g3, g4, g5⟩ := of_decide_eq_true h
  have hg : Nat.gcd gd.natAbs gn.natAbs = 1 := by rw [Nat.gcd_comm]; exact g5
  have e1 : mkN gd gn = if gn < 0 then -gd else gd := by unfold mkN; rw [hg]; simp
  have e2 : mkD gd gn = (gn.natAbs : Int) := by unfold mkD; rw [hg]; simp
  rw [e1, e2]
  refine decide_eq_true ⟨by omega, by omega, by split <;> omega, by split <;> omega, ?_⟩
  rw [show (if gn < 0 then -gd else gd).natAbs = gd.natAbs from by split <;> omega, show ((gn.natAbs : Int)).natAbs = gn.natAbs from by omega]
  exact hg

theorem div_no {fn fd gn gd : Int} (h : ¬ dvOk gn gd) : dvN fn fd gn gd = 0 ∧ dvD fn fd gn gd = 0 ∧ dvB fn fd gn gd = false := ⟨if_neg h, if_neg h, if_neg h⟩
theorem ml_no {fn fd gn gd : Int} (h : ¬ mfOk fn fd gn gd) : mlN fn fd gn gd = 0 ∧ mlD fn fd gn gd = 0 ∧ mlB fn fd gn gd = false := ⟨if_neg h, if_neg h, if_neg h⟩

set_option maxHeartbeats 1600000 in
set_option maxRecDepth 100000 in
theorem div_impl (fn fd gn gd : Int) (w : World) (wf1 : -9223372036854775808 ≤ fn) (wf2 : fn ≤ 9223372036854775807) (wg1 : -9223372036854775808 ≤ gn) (wg2 : gn ≤ 9223372036854775807) :
    Calls Tryd.prog 30 #[.agg #[.int .i64 fn, .int .i64 fd], .agg #[.int .i64 gn, .int .i64 gd]] w fun e w' => e = .returned (.tuple #[.agg #[.int .i64 (dvN fn fd gn gd), .int .i64 (dvD fn fd gn gd)], .bool (dvB fn fd gn gd)]) ∧ Below w.heap.size w w' := by
  have F0 := Lib.hid (fbox_alloc (fbox_alloc (fbox_new w (.int .i64 fn) (.int .i64 fd) 36) (.cells #[.int .i64 gn, .int .i64 gd] 36)) (.cells #[.int .i64 0, .int .i64 0] 36))
  have G0 := Lib.hid (fbox_alloc (fbox_new (w.alloc (.cells #[.int .i64 fn, .int .i64 fd] 36)) (.int .i64 gn) (.int .i64 gd) 36) (.cells #[.int .i64 0, .int .i64 0] 36))
  have R0 := Lib.hid (fbox_new ((w.alloc (.cells #[.int .i64 fn, .int .i64 fd] 36)).alloc (.cells #[.int .i64 gn, .int .i64 gd] 36)) (.int .i64 0) (.int .i64 0) 36)
  have B0 := Lib.hid (balloc (balloc (balloc (Below.refl w.heap.size w) (.cells #[.int .i64 fn, .int .i64 fd] 36)) (.cells #[.int .i64 gn, .int .i64 gd] 36)) (.cells #[.int .i64 0, .int .i64 0] 36))
  cases hg : fIs gn gd
  · have HG := Lib.hid hg
    obtain ⟨e1, e2, e3⟩ := div_no (fn := fn) (fd := fd) (gn := gn) (gd := gd) (fun h => by rw [h.1] at hg; cases hg)
    rw [e1, e2, e3]
    clear e1 e2 e3 hg
    go_enter Tryd.func30, Tryd.ntmps30
    go_wp2_with fail
    refine (validFraction_impl _ _ _ wg1 wg2).mono ?_; rintro e w1 ⟨rfl, hb1⟩
    rw [HG.out]
    have R1 := Lib.hid (fbox_keep R0.out hb1)
    have B1 := Lib.hid (bnext B0.out hb1)
    clear hb1
    obtain ⟨⟨q0, q1, -⟩, q2, q3⟩ := R1.out
    simp at q0 q1 q2 q3
    go_wp2_with fail
    refine bodyPost_ret (v := .tuple #[.agg #[.int .i64 0, .int .i64 0], .bool false]) (by simp [results, Tryd.results30, go_sem, q0, q1]) rfl ⟨rfl, ?_⟩
    exact (B1.out.setCell (by simp; omega) _).setCell (by simp; omega) _
  · have HG := Lib.hid hg
    obtain ⟨⟨g3, g4⟩, g1, g2⟩ := fIs_bd hg
    by_cases h0 : gn = 0
    · obtain ⟨e1, e2, e3⟩ := div_no (fn := fn) (fd := fd) (gn := gn) (gd := gd) (fun h => h.2 h0)
      have HM := Lib.hid (fun W => make_no_impl gd gn W (fun e => e.1 h0))
      rw [e1, e2, e3]
      clear e1 e2 e3 hg h0
      go_enter Tryd.func30, Tryd.ntmps30
      go_wp2_with fail
      refine (validFraction_impl _ _ _ wg1 wg2).mono ?_; rintro e w1 ⟨rfl, hb1⟩
      rw [HG.out]
      have G1 := Lib.hid (fbox_keep G0.out hb1)
      have R1 := Lib.hid (fbox_keep R0.out hb1)
      have B1 := Lib.hid (bnext B0.out hb1)
      clear hb1
      obtain ⟨⟨q0, q1, -⟩, q2, q3⟩ := G1.out
      simp at q0 q1 q2 q3
      go_wp2_with fail
      refine (HM.out _).mono ?_; rintro e w2 ⟨rfl, hb2⟩
      have R2 := Lib.hid (fbox_alloc (fbox_keep R1.out hb2) (.cells #[.int .i64 0, .int .i64 0] 36))
      have B2 := Lib.hid (balloc (bnext B1.out hb2) (.cells #[.int .i64 0, .int .i64 0] 36))
      clear hb2 q0 q1 q2 q3
      obtain ⟨⟨q0, q1, -⟩, q2, q3⟩ := R2.out
      simp only [World.size_alloc] at q0 q1 q2 q3
      go_wp2_with fail
      refine bodyPost_ret (v := .tuple #[.agg #[.int .i64 0, .int .i64 0], .bool false]) (by simp [results, Tryd.results30, go_sem, q0, q1]) rfl ⟨rfl, ?_⟩
      exact (B2.out.setCell (by simp; omega) _).setCell (by simp; omega) _
    · have e1 : dvN fn fd gn gd = mlN fn fd (mkN gd gn) (mkD gd gn) := if_pos ⟨hg, h0⟩
      have e2 : dvD fn fd gn gd = mlD fn fd (mkN gd gn) (mkD gd gn) := if_pos ⟨hg, h0⟩
      have e3 : dvB fn fd gn gd = mlB fn fd (mkN gd gn) (mkD gd gn) := if_pos ⟨hg, h0⟩
      obtain ⟨⟨t3, t4⟩, t1, t2⟩ := fIs_bd (turned_ok hg h0)
      have HM := Lib.hid (fun W => make_yes_impl gd gn W h0 (by omega) g4 g1 g2)
      have HU := Lib.hid (fun W => mul_impl fn fd (mkN gd gn) (mkD gd gn) W wf1 wf2 (by omega) (by omega))
      rw [e1, e2, e3]
      clear e1 e2 e3 hg h0
      generalize mkN gd gn = C at *
      generalize mkD gd gn = D at *
      generalize mlN fn fd C D = X at *
      generalize mlD fn fd C D = Y at *
      generalize mlB fn fd C D = Z at *
      go_enter Tryd.func30, Tryd.ntmps30
      go_wp2_with fail
      refine (validFraction_impl _ _ _ wg1 wg2).mono ?_; rintro e w1 ⟨rfl, hb1⟩
      rw [HG.out]
      have F1 := Lib.hid (fbox_keep F0.out hb1)
      have G1 := Lib.hid (fbox_keep G0.out hb1)
      have R1 := Lib.hid (fbox_keep R0.out hb1)
      have B1 := Lib.hid (bnext B0.out hb1)
      clear hb1
      obtain ⟨⟨q0, q1, -⟩, q2, q3⟩ := G1.out
      simp at q0 q1 q2 q3
      go_wp2_with fail
      refine (HM.out _).mono ?_; rintro e w2 ⟨rfl, hb2⟩
      have F2 := Lib.hid (fbox_alloc (fbox_keep F1.out hb2) (.cells #[.int .i64 C, .int .i64 D] 36))
      have C2 := Lib.hid (fbox_new w2 (.int .i64 C) (.int .i64 D) 36)
      have R2 := Lib.hid (fbox_alloc (fbox_keep R1.out hb2) (.cells #[.int .i64 C, .int .i64 D] 36))
      have B2 := Lib.hid (balloc (bnext B1.out hb2) (.cells #[.int .i64 C, .int .i64 D] 36))
      clear hb2 q0 q1 q2 q3
      obtain ⟨⟨q0, q1, -⟩, -, -⟩ := F2.out
      obtain ⟨⟨q2, q3, -⟩, -, -⟩ := C2.out
      go_wp2_with fail
      refine (HU.out _).mono ?_; rintro e w3 ⟨rfl, hb3⟩
      have R3 := Lib.hid (fbox_keep R2.out hb3)
      have B3 := Lib.hid (bnext B2.out hb3)
      clear hb3 q0 q1 q2 q3
      obtain ⟨⟨q0, q1, -⟩, q2, q3⟩ := R3.out
      simp only [World.size_alloc] at q0 q1 q2 q3
      go_wp2_with fail
      refine bodyPost_ret (v := .tuple #[.agg #[.int .i64 X, .int .i64 Y], .bool Z]) (by simp [results, Tryd.results30, go_sem, q0, q1]) rfl ⟨rfl, ?_⟩
      exact (B3.out.setCell (by simp; omega) _).setCell (by simp; omega) _

end Go.Proofs.YtnpigefbdadjfaaDoor

namespace Go.Proofs.YtnpigefbdadjfaaDoor
open Go Go.RowKit
set_option linter.unusedVariables false

theorem fIs_neg (n d : Int) : fIs (-n) d = fIs n d := by
  unfold fIs
  rw [Int.natAbs_neg]
  exact decide_eq_decide.2 ⟨fun ⟨a, b, c, e, f⟩ => ⟨a, b, by omega, by omega, f⟩, fun ⟨a, b, c, e, f⟩ => ⟨a, b, by omega, by omega, f⟩⟩
set_option maxRecDepth 100000 in
theorem sub_impl (fn fd gn gd : Int) (w : World) (wf1 : -9223372036854775808 ≤ fn) (wf2 : fn ≤ 9223372036854775807) (wg1 : -9223372036854775808 ≤ gn) (wg2 : gn ≤ 9223372036854775807) :
    Calls Tryd.prog 23 #[.agg #[.int .i64 fn, .int .i64 fd], .agg #[.int .i64 gn, .int .i64 gd]] w fun e w' => e = .returned (.tuple #[.agg #[.int .i64 (agN fn (-gn) fd gd), .int .i64 (agD fn (-gn) fd gd)], .bool (agB fn (-gn) fd gd)]) ∧ Below w.heap.size w w' := by
  have F0 := Lib.hid (fbox_alloc (fbox_alloc (fbox_new w (.int .i64 fn) (.int .i64 fd) 36) (.cells #[.int .i64 gn, .int .i64 gd] 36)) (.cells #[.int .i64 0, .int .i64 0] 36))
  have G0 := Lib.hid (fbox_alloc (fbox_new (w.alloc (.cells #[.int .i64 fn, .int .i64 fd] 36)) (.int .i64 gn) (.int .i64 gd) 36) (.cells #[.int .i64 0, .int .i64 0] 36))
  have R0 := Lib.hid (fbox_new ((w.alloc (.cells #[.int .i64 fn, .int .i64 fd] 36)).alloc (.cells #[.int .i64 gn, .int .i64 gd] 36)) (.int .i64 0) (.int .i64 0) 36)
  have B0 := Lib.hid (balloc (balloc (balloc (Below.refl w.heap.size w) (.cells #[.int .i64 fn, .int .i64 fd] 36)) (.cells #[.int .i64 gn, .int .i64 gd] 36)) (.cells #[.int .i64 0, .int .i64 0] 36))
  cases hg : fIs gn gd
  · have HG := Lib.hid hg
    have hn := (fIs_neg gn gd).trans hg
    have e1 : agN fn (-gn) fd gd = 0 := if_neg (fun h => by rw [h.2] at hn; cases hn)
    have e2 : agD fn (-gn) fd gd = 0 := if_neg (fun h => by rw [h.2] at hn; cases hn)
    have e3 : agB fn (-gn) fd gd = false := if_neg (fun h => by rw [h.2] at hn; cases hn)
    rw [e1, e2, e3]
    clear e1 e2 e3 hg hn
    go_enter Tryd.func23, Tryd.ntmps23
    go_wp2_with fail
    refine (validFraction_impl _ _ _ wg1 wg2).mono ?_; rintro e w1 ⟨rfl, hb1⟩
    rw [HG.out]
    have R1 := Lib.hid (fbox_keep R0.out hb1)
    have B1 := Lib.hid (bnext B0.out hb1)
    clear hb1
    obtain ⟨⟨q0, q1, -⟩, q2, q3⟩ := R1.out
    simp at q0 q1 q2 q3
    go_wp2_with fail
    refine bodyPost_ret (v := .tuple #[.agg #[.int .i64 0, .int .i64 0], .bool false]) (by simp [results, Tryd.results23, go_sem, q0, q1]) rfl ⟨rfl, ?_⟩
    exact (B1.out.setCell (by simp; omega) _).setCell (by simp; omega) _
  · have HG := Lib.hid hg
    obtain ⟨-, g1, g2⟩ := fIs_bd hg
    have wn : IntKind.i64.wrap (-gn) = -gn := IntWalk.i64_in _ (by omega)
    have HAD := Lib.hid (fun W => add_impl fn fd (-gn) gd W wf1 wf2 (by omega) (by omega))
    generalize agN fn (-gn) fd gd = X at *
    generalize agD fn (-gn) fd gd = Y at *
    generalize agB fn (-gn) fd gd = Z at *
    clear hg
    go_enter Tryd.func23, Tryd.ntmps23
    go_wp2_with fail
    refine (validFraction_impl _ _ _ wg1 wg2).mono ?_; rintro e w1 ⟨rfl, hb1⟩
    rw [HG.out]
    have F1 := Lib.hid (fbox_keep F0.out hb1)
    have G1 := Lib.hid (fbox_keep G0.out hb1)
    have R1 := Lib.hid (fbox_keep R0.out hb1)
    have B1 := Lib.hid (bnext B0.out hb1)
    clear hb1
    obtain ⟨⟨p0, p1, -⟩, -, -⟩ := F1.out
    obtain ⟨⟨q0, q1, -⟩, -, -⟩ := G1.out
    simp at p0 p1 q0 q1
    go_wp2_with fail
    refine (HAD.out _).mono ?_; rintro e w2 ⟨rfl, hb2⟩
    have R2 := Lib.hid (fbox_keep R1.out hb2)
    have B2 := Lib.hid (bnext B1.out hb2)
    clear hb2 p0 p1 q0 q1
    obtain ⟨⟨q0, q1, -⟩, q2, q3⟩ := R2.out
    simp at q0 q1 q2 q3
    go_wp2_with fail
    refine bodyPost_ret (v := .tuple #[.agg #[.int .i64 X, .int .i64 Y], .bool Z]) (by simp [results, Tryd.results23, go_sem, q0, q1]) rfl ⟨rfl, ?_⟩
    exact (B2.out.setCell (by simp; omega) _).setCell (by simp; omega) _
end Go.Proofs.YtnpigefbdadjfaaDoor

