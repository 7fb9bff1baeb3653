/- The walk of the law. -/
import Derived.Test.YtdffopedlgpahabCmpB
import Derived.Test.YtdffopedlgpahabFLaw
namespace Go.Proofs.Ytdffopedlgpahab
open Go Go.RowKit
set_option linter.unusedVariables false

set_option maxHeartbeats 1600000 in
set_option maxRecDepth 100000 in
theorem law_FnExactCompareFractions (fn : Int) (wfn : (Lit.int .i64 fn).wf = true) (fd : Int) (wfd : (Lit.int .i64 fd).wf = true) (gn : Int) (wgn : (Lit.int .i64 gn).wf = true) (gd : Int) (wgd : (Lit.int .i64 gd).wf = true) (w : World) :
    Calls Try.prog 13 #[.agg #[.int .i64 fn, .int .i64 fd], .agg #[.int .i64 gn, .int .i64 gd]] w fun e w' => e = .returned (.bool true) ∧ Below w.heap.size w w' := by
  obtain ⟨f1, f2⟩ := i64_bounds wfn
  obtain ⟨g1, g2⟩ := i64_bounds wgn
  have HS := Lib.hid (fun W => cmp_spec fn fd gn gd W)
  have HI := Lib.hid (fun W => cmp_impl fn fd gn gd W f1 f2 g1 g2)
  clear wfn wfd wgn wgd f1 f2 g1 g2
  generalize cpV fn fd gn gd = X at *
  generalize cpB fn fd gn gd = Z at *
  have t0 := T2.new w (.int .i64 fn) (.int .i64 fd) (.int .i64 gn) (.int .i64 gd) 37
  have td := t0.drew
  have z0 := t0.c0
  have z1 := t0.c1
  have z2 := t0.c2
  have z3 := t0.c3
  go_enter Try.func13, Try.ntmps13
  go_upto_region 1 with fail
  go_cut [5, 6] from 9 to 32 (fun s5 s6 w' => s5 = .int .i64 X ∧ s6 = .bool Z ∧ T2 w w' (.int .i64 fn) (.int .i64 fd) (.int .i64 gn) (.int .i64 gd))
  case first =>
    go_region_held3 (fun w' => w'.cell? ⟨w.heap.size, 0, none⟩ = some (.int .i64 fn) ∧ w'.cell? ⟨w.heap.size, 1, none⟩ = some (.int .i64 fd) ∧ w'.cell? ⟨w.heap.size + 1, 0, none⟩ = some (.int .i64 gn) ∧ w'.cell? ⟨w.heap.size + 1, 1, none⟩ = some (.int .i64 gd)) ((first | with_reducible assumption | with_reducible exact T2.all td | with_reducible exact T2.all t8 | with_reducible exact T2.all t9 | with_reducible exact T2.all t7 | fail))
      (first
        | (go_at_call_of 28 (Value.agg #[.int .i64 fn, .int .i64 fd]); refine (toFraction_any _ _ _).mono ?_; rintro e w8 ⟨rfl, hb8⟩; (first | have t8 := T2.keep td hb8 | have t8 := T2.keep t9 hb8); have y0 := t8.c0; have y1 := t8.c1; have y2 := t8.c2; have y3 := t8.c3)
        | (go_at_call_of 28 (Value.agg #[.int .i64 gn, .int .i64 gd]); refine (toFraction_any _ _ _).mono ?_; rintro e w9 ⟨rfl, hb9⟩; (first | have t9 := T2.keep td hb9 | have t9 := T2.keep t8 hb9); have y0 := t9.c0; have y1 := t9.c1; have y2 := t9.c2; have y3 := t9.c3)
        | (go_at_call 41; refine (HS.out _).mono ?_; rintro e w7 ⟨rfl, hb7⟩; (first | have t7 := T2.keep t9 hb7 | have t7 := T2.keep t8 hb7); have y0 := t7.c0; have y1 := t7.c1; have y2 := t7.c2; have y3 := t7.c3)
        | fail)
    all_goals go_wp2_with fail
    all_goals (go_meet; case rel => exact ⟨rfl, rfl, t7⟩)
  case rest =>
    clear td z0 z1 z2 z3 t0
    obtain ⟨rfl, rfl, t0⟩ := hcut
    have td := t0.drew
    have z0 := t0.c0
    have z1 := t0.c1
    have z2 := t0.c2
    have z3 := t0.c3
    go_upto_region 2 with fail
    go_cut [7, 8] from 17 to 32 (fun s7 s8 w' => s7 = .int .i64 X ∧ s8 = .bool Z ∧ T2 w w' (.int .i64 fn) (.int .i64 fd) (.int .i64 gn) (.int .i64 gd))
    case first =>
      go_region_held3 (fun w' => w'.cell? ⟨w.heap.size, 0, none⟩ = some (.int .i64 fn) ∧ w'.cell? ⟨w.heap.size, 1, none⟩ = some (.int .i64 fd) ∧ w'.cell? ⟨w.heap.size + 1, 0, none⟩ = some (.int .i64 gn) ∧ w'.cell? ⟨w.heap.size + 1, 1, none⟩ = some (.int .i64 gd)) ((first | with_reducible assumption | with_reducible exact T2.all td | with_reducible exact T2.all t8 | with_reducible exact T2.all t9 | with_reducible exact T2.all t7 | fail))
        (first
          | (go_at_call_of 28 (Value.agg #[.int .i64 fn, .int .i64 fd]); refine (toFraction_any _ _ _).mono ?_; rintro e w8 ⟨rfl, hb8⟩; (first | have t8 := T2.keep td hb8 | have t8 := T2.keep t9 hb8); have y0 := t8.c0; have y1 := t8.c1; have y2 := t8.c2; have y3 := t8.c3)
          | (go_at_call_of 28 (Value.agg #[.int .i64 gn, .int .i64 gd]); refine (toFraction_any _ _ _).mono ?_; rintro e w9 ⟨rfl, hb9⟩; (first | have t9 := T2.keep td hb9 | have t9 := T2.keep t8 hb9); have y0 := t9.c0; have y1 := t9.c1; have y2 := t9.c2; have y3 := t9.c3)
          | (go_at_call 42; refine (HI.out _).mono ?_; rintro e w7 ⟨rfl, hb7⟩; (first | have t7 := T2.keep t9 hb7 | have t7 := T2.keep t8 hb7); have y0 := t7.c0; have y1 := t7.c1; have y2 := t7.c2; have y3 := t7.c3)
          | fail)
      all_goals go_wp2_with fail
      all_goals (go_meet; case rel => exact ⟨rfl, rfl, t7⟩)
    case rest =>
      clear td z0 z1 z2 z3 t0
      obtain ⟨rfl, rfl, t3⟩ := hcut
      have B3 := Lib.hid t3.2.2
      have hx : (X != X) = false := by simp
      have hz : (Z != Z) = false := by cases Z <;> rfl
      clear t3
      go_wp2_with fail
      go_ret
      exact ⟨rfl, B3.out⟩
end Go.Proofs.Ytdffopedlgpahab
