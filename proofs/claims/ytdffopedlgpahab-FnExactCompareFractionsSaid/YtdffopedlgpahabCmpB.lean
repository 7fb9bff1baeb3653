/- Both comparisons, and their law. -/
import Derived.Test.YtdffopedlgpahabCmp
namespace Go.Proofs.Ytdffopedlgpahab
open Go Go.RowKit
set_option linter.unusedVariables false

theorem l01FCmp_diff (fn fd gn gd : Int) (w : World) (s s' : Bool) (hss : (s != s') = true) (sf : decide (fn < 0) = s) (sg : decide (gn < 0) = s') (v : Int) (hv : v = if s = true then -1 else 1) :
    Calls Try.prog 72 #[.agg #[.int .i64 fn, .int .i64 fd], .agg #[.int .i64 gn, .int .i64 gd]] w fun e w' => e = .returned (.int .i64 v) ∧ Below w.heap.size w w' := by
  have HV := Lib.hid hv
  clear hv
  have t0 := T2.new w (.int .i64 fn) (.int .i64 fd) (.int .i64 gn) (.int .i64 gd) 39
  have z0 := t0.c0
  have z2 := t0.c2
  go_enter Try.func72, Try.ntmps72
  cases s
  · have hs : s' = true := by cases s' <;> simp at hss ⊢
    subst hs
    have hvv := HV.out
    simp only [Bool.false_eq_true, if_false] at hvv
    subst hvv
    go_wp2_with fail
    go_ret
    exact ⟨rfl, t0.2.2⟩
  · have hs : s' = false := by cases s' <;> simp at hss ⊢
    subst hs
    have hvv := HV.out
    simp only [if_true] at hvv
    subst hvv
    go_wp2_with fail
    go_ret
    exact ⟨rfl, t0.2.2⟩

theorem l01FCmp_any (fn fd gn gd : Int) (w : World) (f1 : -1000000000000000000 ≤ fn) (f2 : fn ≤ 1000000000000000000) (f3 : 1 ≤ fd) (f4 : fd ≤ 1000000000000000000) (g1 : -1000000000000000000 ≤ gn) (g2 : gn ≤ 1000000000000000000) (g3 : 1 ≤ gd) (g4 : gd ≤ 1000000000000000000) :
    Calls Try.prog 72 #[.agg #[.int .i64 fn, .int .i64 fd], .agg #[.int .i64 gn, .int .i64 gd]] w fun e w' => e = .returned (.int .i64 (sgn (fn * gd + -gn * fd))) ∧ Below w.heap.size w w' := by
  obtain ⟨v1, v2, v3, v4⟩ := cmp_vals fn fd gn gd f3 g3
  by_cases ha : fn < 0
  all_goals by_cases hb : gn < 0
  · refine l01FCmp_same fn fd gn gd w f1 f2 f3 f4 g1 g2 g3 g4 true (decide_eq_true ha) (decide_eq_true hb) _ _ _ rfl rfl _ _ rfl rfl ?_
    rw [v1 ha hb]; simp
  · exact l01FCmp_diff fn fd gn gd w true false rfl (decide_eq_true ha) (decide_eq_false hb) _ (v3 ha hb)
  · exact l01FCmp_diff fn fd gn gd w false true rfl (decide_eq_false ha) (decide_eq_true hb) _ (v4 ha hb)
  · refine l01FCmp_same fn fd gn gd w f1 f2 f3 f4 g1 g2 g3 g4 false (decide_eq_false ha) (decide_eq_false hb) _ _ _ rfl rfl _ _ rfl rfl ?_
    rw [v2 ha hb]; simp

set_option maxRecDepth 100000 in
theorem cmp_spec (fn fd gn gd : Int) (w : World) :
    Calls Try.prog 41 #[.agg #[.int .i64 fn, .int .i64 fd], .agg #[.int .i64 gn, .int .i64 gd]] w fun e w' => e = .returned (.tuple #[.int .i64 (cpV fn fd gn gd), .bool (cpB fn fd gn gd)]) ∧ Below w.heap.size w w' := by
  have t0 := Lib.hid (T2.new w (.int .i64 fn) (.int .i64 fd) (.int .i64 gn) (.int .i64 gd) 39)
  cases hf : fIs fn fd
  · have HF := Lib.hid hf
    have hno : ¬ cpOk fn fd gn gd := fun h => by rw [h.1] at hf; cases hf
    have e1 : cpV fn fd gn gd = 0 := if_neg hno
    have e2 : cpB fn fd gn gd = false := decide_eq_false hno
    rw [e1, e2]
    clear e1 e2 hf hno
    go_enter Try.func41, Try.ntmps41
    go_wp2_with fail
    refine (l01FIs_any _ _ _).mono ?_; rintro e w1 ⟨rfl, hb1⟩
    rw [HF.out]
    have t1 := Lib.hid (t0.out.keep hb1)
    clear hb1
    go_wp2_with fail
    go_ret2
    exact ⟨rfl, t1.out.2.2⟩
  · have HF := Lib.hid hf
    cases hg : fIs gn gd
    · have HG := Lib.hid hg
      have hno : ¬ cpOk fn fd gn gd := fun h => by rw [h.2] at hg; cases hg
      have e1 : cpV fn fd gn gd = 0 := if_neg hno
      have e2 : cpB fn fd gn gd = false := decide_eq_false hno
      rw [e1, e2]
      clear e1 e2 hf hg hno
      go_enter Try.func41, Try.ntmps41
      go_wp2_with fail
      refine (l01FIs_any _ _ _).mono ?_; rintro e w1 ⟨rfl, hb1⟩
      rw [HF.out]
      have t1 := Lib.hid (t0.out.keep hb1)
      clear hb1
      have z2 := t1.out.c2
      have z3 := t1.out.c3
      go_wp2_with fail
      refine (l01FIs_any _ _ _).mono ?_; rintro e w2 ⟨rfl, hb2⟩
      rw [HG.out]
      have t2 := Lib.hid (t1.out.keep hb2)
      clear hb2 z2 z3
      go_wp2_with fail
      go_ret2
      exact ⟨rfl, t2.out.2.2⟩
    · have HG := Lib.hid hg
      have e1 : cpV fn fd gn gd = sgn (fn * gd + -gn * fd) := if_pos ⟨hf, hg⟩
      have e2 : cpB fn fd gn gd = true := decide_eq_true ⟨hf, hg⟩
      obtain ⟨⟨f3, f4⟩, f1, f2⟩ := fIs_bd hf
      obtain ⟨⟨g3, g4⟩, g1, g2⟩ := fIs_bd hg
      rw [e1, e2]
      clear e1 e2 hf hg
      have HC := Lib.hid (fun W => l01FCmp_any fn fd gn gd W f1 f2 f3 f4 g1 g2 g3 g4)
      generalize sgn (fn * gd + -gn * fd) = v at *
      go_enter Try.func41, Try.ntmps41
      go_wp2_with fail
      refine (l01FIs_any _ _ _).mono ?_; rintro e w1 ⟨rfl, hb1⟩
      rw [HF.out]
      have t1 := Lib.hid (t0.out.keep hb1)
      clear hb1
      have z2 := t1.out.c2
      have z3 := t1.out.c3
      go_wp2_with fail
      refine (l01FIs_any _ _ _).mono ?_; rintro e w2 ⟨rfl, hb2⟩
      rw [HG.out]
      have t2 := Lib.hid (t1.out.keep hb2)
      clear hb2 z2 z3
      have z0 := t2.out.c0
      have z1 := t2.out.c1
      have z2 := t2.out.c2
      have z3 := t2.out.c3
      go_wp2_with fail
      refine (HC.out _).mono ?_; rintro e w3 ⟨rfl, hb3⟩
      have t3 := Lib.hid (t2.out.keep hb3)
      clear hb3 z0 z1 z2 z3
      go_wp2_with fail
      go_ret2
      exact ⟨rfl, t3.out.2.2⟩

set_option maxHeartbeats 1600000 in
set_option maxRecDepth 100000 in
theorem cmp_impl (fn fd gn gd : Int) (w : World) (wf1 : -9223372036854775808 ≤ fn) (wf2 : fn ≤ 9223372036854775807) (wg1 : -9223372036854775808 ≤ gn) (wg2 : gn ≤ 9223372036854775807) :
    Calls Try.prog 42 #[.agg #[.int .i64 fn, .int .i64 fd], .agg #[.int .i64 gn, .int .i64 gd]] w fun e w' => e = .returned (.tuple #[.int .i64 (cpV fn fd gn gd), .bool (cpB fn fd gn gd)]) ∧ Below w.heap.size w w' := by
  have t0 := Lib.hid (T2.new w (.int .i64 fn) (.int .i64 fd) (.int .i64 gn) (.int .i64 gd) 39)
  cases hf : fIs fn fd
  · have HF := Lib.hid hf
    have hno : ¬ cpOk fn fd gn gd := fun h => by rw [h.1] at hf; cases hf
    have e1 : cpV fn fd gn gd = 0 := if_neg hno
    have e2 : cpB fn fd gn gd = false := decide_eq_false hno
    rw [e1, e2]
    clear e1 e2 hf hno
    go_enter Try.func42, Try.ntmps42
    go_wp2_with fail
    refine (validFraction_impl _ _ _ wf1 wf2).mono ?_; rintro e w1 ⟨rfl, hb1⟩
    rw [HF.out]
    have t1 := Lib.hid (t0.out.keep hb1)
    clear hb1
    go_wp2_with fail
    go_ret2
    exact ⟨rfl, t1.out.2.2⟩
  · have HF := Lib.hid hf
    cases hg : fIs gn gd
    · have HG := Lib.hid hg
      have hno : ¬ cpOk fn fd gn gd := fun h => by rw [h.2] at hg; cases hg
      have e1 : cpV fn fd gn gd = 0 := if_neg hno
      have e2 : cpB fn fd gn gd = false := decide_eq_false hno
      rw [e1, e2]
      clear e1 e2 hf hg hno
      go_enter Try.func42, Try.ntmps42
      go_wp2_with fail
      refine (validFraction_impl _ _ _ wf1 wf2).mono ?_; rintro e w1 ⟨rfl, hb1⟩
      rw [HF.out]
      have t1 := Lib.hid (t0.out.keep hb1)
      clear hb1
      have z2 := t1.out.c2
      have z3 := t1.out.c3
      go_wp2_with fail
      refine (validFraction_impl _ _ _ wg1 wg2).mono ?_; rintro e w2 ⟨rfl, hb2⟩
      rw [HG.out]
      have t2 := Lib.hid (t1.out.keep hb2)
      clear hb2 z2 z3
      go_wp2_with fail
      go_ret2
      exact ⟨rfl, t2.out.2.2⟩
    · have HG := Lib.hid hg
      have e1 : cpV fn fd gn gd = sgn (fn * gd + -gn * fd) := if_pos ⟨hf, hg⟩
      have e2 : cpB fn fd gn gd = true := decide_eq_true ⟨hf, hg⟩
      obtain ⟨⟨f3, f4⟩, f1, f2⟩ := fIs_bd hf
      obtain ⟨⟨g3, g4⟩, g1, g2⟩ := fIs_bd hg
      rw [e1, e2]
      clear e1 e2 hf hg
      have hx := mul_bd (fn.natAbs : Int) (gd.natAbs : Int) 1000000000000000000 1000000000000000000 (by omega) (by omega) (by omega) (by omega)
      have hy := mul_bd ((-gn).natAbs : Int) (fd.natAbs : Int) 1000000000000000000 1000000000000000000 (by omega) (by omega) (by omega) (by omega)
      have hx2 := mul_parts fn gd
      have hy2 := mul_parts (-gn) fd
      have ha : Fits (fn * gd + -gn * fd) := by
        generalize (fn.natAbs : Int) * gd.natAbs = p at *
        generalize ((-gn).natAbs : Int) * fd.natAbs = q at *
        generalize fn * gd = x at *
        generalize -gn * fd = y at *
        unfold Fits
        split at hx2 <;> split at hy2 <;> omega
      have HP1 := Lib.hid (fun W => productOf_any fn gd W f1 f2 (by omega) g4)
      have HP2 := Lib.hid (fun W => productOf_any (-gn) fd W (by omega) (by omega) (by omega) f4)
      have HPL := Lib.hid (fun W => plus_any (fn * gd) (-gn * fd) W)
      have HSG := Lib.hid (fun W => sign_any (fn * gd + -gn * fd) W ha)
      have na : IntKind.i64.wrap (-gn) = -gn := IntWalk.i64_in _ (by omega)
      clear hx hy hx2 hy2 ha
      generalize sgn (fn * gd + -gn * fd) = v at *
      generalize fn * gd + -gn * fd = z at *
      generalize fn * gd = x at *
      generalize -gn * fd = y at *
      go_enter Try.func42, Try.ntmps42
      go_wp2_with fail
      refine (validFraction_impl _ _ _ wf1 wf2).mono ?_; rintro e w1 ⟨rfl, hb1⟩
      rw [HF.out]
      have t1 := Lib.hid (t0.out.keep hb1)
      clear hb1
      have z2 := t1.out.c2
      have z3 := t1.out.c3
      go_wp2_with fail
      refine (validFraction_impl _ _ _ wg1 wg2).mono ?_; rintro e w2 ⟨rfl, hb2⟩
      rw [HG.out]
      have t2 := Lib.hid (t1.out.keep hb2)
      clear hb2 z2 z3
      have z0 := t2.out.c0
      have z1 := t2.out.c1
      have z2 := t2.out.c2
      have z3 := t2.out.c3
      have td := t2.out.drew
      go_wp2_with fail
      go_region_held3 (fun w' => w'.cell? ⟨w.heap.size, 0, none⟩ = some (.int .i64 fn) ∧ w'.cell? ⟨w.heap.size, 1, none⟩ = some (.int .i64 fd) ∧ w'.cell? ⟨w.heap.size + 1, 0, none⟩ = some (.int .i64 gn) ∧ w'.cell? ⟨w.heap.size + 1, 1, none⟩ = some (.int .i64 gd)) ((first | with_reducible assumption | with_reducible exact T2.all td | with_reducible exact T2.all t8 | with_reducible exact T2.all t9 | with_reducible exact T2.all t7 | with_reducible exact T2.all t6 | fail))
        (first
          | (go_at_call_of 65 (Value.int .i64 fn); refine (HP1.out _).mono ?_; rintro e w8 ⟨rfl, hb8⟩; (first | have t8 := T2.keep td hb8 | have t8 := T2.keep t9 hb8); have y0 := t8.c0; have y1 := t8.c1; have y2 := t8.c2; have y3 := t8.c3)
          | (go_at_call_of 65 (Value.int .i64 (-gn)); refine (HP2.out _).mono ?_; rintro e w9 ⟨rfl, hb9⟩; (first | have t9 := T2.keep td hb9 | have t9 := T2.keep t8 hb9); have y0 := t9.c0; have y1 := t9.c1; have y2 := t9.c2; have y3 := t9.c3)
          | (go_at_call 66; refine (HPL.out _).mono ?_; rintro e w7 ⟨rfl, hb7⟩; (first | have t7 := T2.keep t9 hb7 | have t7 := T2.keep t8 hb7); have y0 := t7.c0; have y1 := t7.c1; have y2 := t7.c2; have y3 := t7.c3)
          | (go_at_call 73; refine (HSG.out _).mono ?_; rintro e w6 ⟨rfl, hb6⟩; (first | have t6 := T2.keep t7 hb6); have y0 := t6.c0; have y1 := t6.c1; have y2 := t6.c2; have y3 := t6.c3)
          | fail)
      all_goals
        go_wp2_with fail
        go_ret2
        exact ⟨rfl, t6.2.2⟩
end Go.Proofs.Ytdffopedlgpahab
