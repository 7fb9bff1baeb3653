/- The walk of the law. -/
import Derived.Test.YtmhdjimdhcephabAdS
import Derived.Test.YtmhdjimdhcephabFLaw
namespace Go.Proofs.Ytmhdjimdhcephab
open Go Go.RowKit
set_option linter.unusedVariables false

set_option maxHeartbeats 1600000 in
set_option maxRecDepth 100000 in
theorem law_FnExactAddFractions (fn : Int) (wfn : (Lit.int .i64 fn).wf = true) (fd : Int) (wfd : (Lit.int .i64 fd).wf = true) (gn : Int) (wgn : (Lit.int .i64 gn).wf = true) (gd : Int) (wgd : (Lit.int .i64 gd).wf = true) (w : World) :
    Calls Try.prog 5 #[.agg #[.int .i64 fn, .int .i64 fd], .agg #[.int .i64 gn, .int .i64 gd]] w fun e w' => e = .returned (.bool true) ∧ Below w.heap.size w w' := by
  obtain ⟨f1, f2⟩ := i64_bounds wfn
  obtain ⟨g1, g2⟩ := i64_bounds wgn
  have HS := Lib.hid (fun W => add_spec fn fd gn gd W)
  have HI := Lib.hid (fun W => add_impl fn fd gn gd W f1 f2 g1 g2)
  clear wfn wfd wgn wgd f1 f2 g1 g2
  generalize agN fn gn fd gd = X at *
  generalize agD fn gn fd gd = Y at *
  generalize agB fn gn fd gd = Z at *
  have t0 := T2.new w (.int .i64 fn) (.int .i64 fd) (.int .i64 gn) (.int .i64 gd) 23
  have td := t0.drew
  have n0 := NB.new3 w (.int .i64 fn) (.int .i64 fd) (.int .i64 gn) (.int .i64 gd) (.int .i64 0) (.int .i64 0) 23 24
  have z0 := t0.c0
  have z1 := t0.c1
  have z2 := t0.c2
  have z3 := t0.c3
  go_enter Try.func5, Try.ntmps5
  go_upto_region 1 with fail
  go_cut [5, 6] from 9 to 33 (fun s5 s6 w' => ∃ b, s5 = .pointer (some ⟨b, 0, none⟩) ∧ s6 = .bool Z ∧ NB w w' b (.int .i64 X) (.int .i64 Y) ∧ T2 w w' (.int .i64 fn) (.int .i64 fd) (.int .i64 gn) (.int .i64 gd))
  case first =>
    go_region_held3 (fun w' => w'.cell? ⟨w.heap.size, 0, none⟩ = some (.int .i64 fn) ∧ w'.cell? ⟨w.heap.size, 1, none⟩ = some (.int .i64 fd) ∧ w'.cell? ⟨w.heap.size + 1, 0, none⟩ = some (.int .i64 gn) ∧ w'.cell? ⟨w.heap.size + 1, 1, none⟩ = some (.int .i64 gd)) ((first | with_reducible exact T2.all t7 | with_reducible exact T2.all (T2.alloc t7 _) | with_reducible exact T2.all (T2.set t7 b7 _ _) | with_reducible exact T2.all t8 | with_reducible exact T2.all (T2.alloc t8 _) | with_reducible exact T2.all (T2.set t8 b8 _ _) | with_reducible exact T2.all t9 | with_reducible exact T2.all (T2.alloc t9 _) | with_reducible exact T2.all (T2.set t9 b9 _ _) | with_reducible exact T2.all td | with_reducible exact T2.all (T2.drew (T2.alloc t0 _)) | fail))
      (first
        | (go_at_call_of 16 (Value.agg #[.int .i64 fn, .int .i64 fd]); refine (toFraction_any _ _ _).mono ?_; rintro e w8 ⟨rfl, hb8⟩; (first | have t8 := T2.keep td hb8 | have t8 := T2.keep t9 hb8 | (have t8 := T2.keep (T2.drew (t0.alloc _)) hb8; have b8 := NB.keep n0 hb8) | (have t8 := T2.keep (t9.alloc _) hb8; have b8 := NB.keep (t9.allocN _ _ _) hb8)); (try have b8 := NB.keep b9 hb8); have y0 := t8.c0; have y1 := t8.c1; have y2 := t8.c2; have y3 := t8.c3; (try (have x0 := b8.c0; have x1 := b8.c1; have x2 := b8.f0; have x3 := b8.f1)))
        | (go_at_call_of 16 (Value.agg #[.int .i64 gn, .int .i64 gd]); refine (toFraction_any _ _ _).mono ?_; rintro e w9 ⟨rfl, hb9⟩; (first | have t9 := T2.keep td hb9 | have t9 := T2.keep t8 hb9 | (have t9 := T2.keep (T2.drew (t0.alloc _)) hb9; have b9 := NB.keep n0 hb9) | (have t9 := T2.keep (t8.alloc _) hb9; have b9 := NB.keep (t8.allocN _ _ _) hb9)); (try have b9 := NB.keep b8 hb9); have y0 := t9.c0; have y1 := t9.c1; have y2 := t9.c2; have y3 := t9.c3; (try (have x0 := b9.c0; have x1 := b9.c1; have x2 := b9.f0; have x3 := b9.f1)))
        | (go_at_call 21; refine (HS.out _).mono ?_; rintro e w7 ⟨rfl, hb7⟩; (first | have t7 := T2.keep t9 hb7 | have t7 := T2.keep t8 hb7 | (have t7 := T2.keep (t9.alloc _) hb7; have b7 := NB.keep (t9.allocN _ _ _) hb7) | (have t7 := T2.keep (t8.alloc _) hb7; have b7 := NB.keep (t8.allocN _ _ _) hb7)); (try have b7 := NB.keep b9 hb7); (try have b7 := NB.keep b8 hb7); have y0 := t7.c0; have y1 := t7.c1; have y2 := t7.c2; have y3 := t7.c3; (try (have x0 := b7.c0; have x1 := b7.c1; have x2 := b7.f0; have x3 := b7.f1)))
        | fail)
    all_goals go_wp2_with fail
    all_goals first
      | (go_meet; case rel => exact ⟨_, rfl, rfl, t7.allocN _ _ _, t7.alloc _⟩)
      | (go_meet; case rel => exact ⟨_, rfl, rfl, b7.set _ _, t7.set b7 _ _⟩)
  case rest =>
    clear n0 td z0 z1 z2 z3 t0
    obtain ⟨bb, rfl, rfl, nb, tt⟩ := hcut
    have t0 : T4 w wc _ _ _ _ bb _ _ := ⟨tt, nb⟩
    clear tt nb
    have td := t0.drew
    have n0 := (T4.allocN t0 (.int .i64 0) (.int .i64 0) 24).drew
    have z0 := t0.c0
    have z1 := t0.c1
    have z2 := t0.c2
    have z3 := t0.c3
    go_upto_region 2 with fail
    go_cut [7, 8] from 17 to 33 (fun s7 s8 w' => ∃ b, s7 = .pointer (some ⟨b, 0, none⟩) ∧ s8 = .bool Z ∧ N2 w w' b bb (.int .i64 X) (.int .i64 Y) ∧ T4 w w' (.int .i64 fn) (.int .i64 fd) (.int .i64 gn) (.int .i64 gd) bb (.int .i64 X) (.int .i64 Y))
    case first =>
      go_region_held3 (fun w' => w'.cell? ⟨w.heap.size, 0, none⟩ = some (.int .i64 fn) ∧ w'.cell? ⟨w.heap.size, 1, none⟩ = some (.int .i64 fd) ∧ w'.cell? ⟨w.heap.size + 1, 0, none⟩ = some (.int .i64 gn) ∧ w'.cell? ⟨w.heap.size + 1, 1, none⟩ = some (.int .i64 gd)) ((first | with_reducible exact T4.all t7 | with_reducible exact T4.all (T4.alloc t7 _) | with_reducible exact T4.all (T4.set t7 b7 _ _) | with_reducible exact T4.all t8 | with_reducible exact T4.all (T4.alloc t8 _) | with_reducible exact T4.all (T4.set t8 b8 _ _) | with_reducible exact T4.all t9 | with_reducible exact T4.all (T4.alloc t9 _) | with_reducible exact T4.all (T4.set t9 b9 _ _) | with_reducible exact T4.all td | with_reducible exact T4.all (T4.drew (T4.alloc t0 _)) | fail))
        (first
          | (go_at_call_of 16 (Value.agg #[.int .i64 fn, .int .i64 fd]); refine (toFraction_any _ _ _).mono ?_; rintro e w8 ⟨rfl, hb8⟩; (first | have t8 := T4.keep td hb8 | have t8 := T4.keep t9 hb8 | (have t8 := T4.keep (T4.drew (t0.alloc _)) hb8; have b8 := N2.keep n0 hb8) | (have t8 := T4.keep (t9.alloc _) hb8; have b8 := N2.keep (t9.allocN _ _ _) hb8)); (try have b8 := N2.keep b9 hb8); have y0 := t8.c0; have y1 := t8.c1; have y2 := t8.c2; have y3 := t8.c3; (try (have x0 := b8.c0; have x1 := b8.c1; have x2 := b8.f0; have x3 := b8.f1)))
          | (go_at_call_of 16 (Value.agg #[.int .i64 gn, .int .i64 gd]); refine (toFraction_any _ _ _).mono ?_; rintro e w9 ⟨rfl, hb9⟩; (first | have t9 := T4.keep td hb9 | have t9 := T4.keep t8 hb9 | (have t9 := T4.keep (T4.drew (t0.alloc _)) hb9; have b9 := N2.keep n0 hb9) | (have t9 := T4.keep (t8.alloc _) hb9; have b9 := N2.keep (t8.allocN _ _ _) hb9)); (try have b9 := N2.keep b8 hb9); have y0 := t9.c0; have y1 := t9.c1; have y2 := t9.c2; have y3 := t9.c3; (try (have x0 := b9.c0; have x1 := b9.c1; have x2 := b9.f0; have x3 := b9.f1)))
          | (go_at_call 22; refine (HI.out _).mono ?_; rintro e w7 ⟨rfl, hb7⟩; (first | have t7 := T4.keep t9 hb7 | have t7 := T4.keep t8 hb7 | (have t7 := T4.keep (t9.alloc _) hb7; have b7 := N2.keep (t9.allocN _ _ _) hb7) | (have t7 := T4.keep (t8.alloc _) hb7; have b7 := N2.keep (t8.allocN _ _ _) hb7)); (try have b7 := N2.keep b9 hb7); (try have b7 := N2.keep b8 hb7); have y0 := t7.c0; have y1 := t7.c1; have y2 := t7.c2; have y3 := t7.c3; (try (have x0 := b7.c0; have x1 := b7.c1; have x2 := b7.f0; have x3 := b7.f1)))
          | fail)
      all_goals go_wp2_with fail
      all_goals first
        | (go_meet; case rel => exact ⟨_, rfl, rfl, t7.allocN _ _ _, t7.alloc _⟩)
        | (go_meet; case rel => exact ⟨_, rfl, rfl, b7.set _ _, t7.set b7 _ _⟩)
    case rest =>
      clear n0 td z0 z1 z2 z3 t0
      obtain ⟨b3, rfl, rfl, n3, t3⟩ := hcut
      have B3 := Lib.hid t3.1.2.2
      have z0 := n3.c0
      have z1 := n3.c1
      have z2 := t3.2.c0
      have z3 := t3.2.c1
      have hz : (Z != Z) = false := by cases Z <;> rfl
      clear n3 t3
      go_wp2_with fail
      refine (eqFraction_yes _ _ _).mono ?_; rintro e w5 ⟨rfl, hb5⟩
      have B5 := Lib.hid (bnext B3.out hb5)
      clear hb5 z0 z1 z2 z3
      go_wp2_with fail
      go_ret
      exact ⟨rfl, B5.out⟩
end Go.Proofs.Ytmhdjimdhcephab
