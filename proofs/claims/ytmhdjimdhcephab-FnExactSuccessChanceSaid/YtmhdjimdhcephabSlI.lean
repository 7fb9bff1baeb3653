/- The program's silenceOf: one less a chance. -/
import Derived.Test.YtmhdjimdhcephabTpP
import Derived.Test.YtmhdjimdhcephabNdI
namespace Go.Proofs.Ytmhdjimdhcephab
open Go Go.RowKit
set_option linter.unusedVariables false

theorem whole_any (n : Int) (w : World) : Calls Try.prog 65 #[.int .i64 n] w fun e w' => e = .returned (.agg #[.int .i64 n, .int .i64 1]) ∧ Below w.heap.size w w' := by
  have R0 := Lib.hid (fbox_new w (.int .i64 0) (.int .i64 0) 24)
  obtain ⟨⟨q0, q1, -⟩, q2, q3⟩ := R0.out
  go_enter Try.func65, Try.ntmps65
  go_wp2_with fail
  first
    | (go_ret; exact ⟨rfl, balloc (Below.refl _ _) _⟩)
    | (refine bodyPost_ret (v := .agg #[.int .i64 n, .int .i64 1]) (by simp [results, Try.results65, go_sem]) rfl ⟨rfl, ?_⟩; first | exact balloc (Below.refl _ _) _ | exact ((balloc (Below.refl _ _) _).setCell (by simp) _).setCell (by simp) _)
/-- What silenceOf answers. -/
def slOk (n pn pd : Int) : Bool := agB 1 (-pn) 1 pd && (rgB 1 12 n && (decide (0 ≤ pn) && decide (0 ≤ agN 1 (-pn) 1 pd)))
def slN (n pn pd : Int) : Int := if slOk n pn pd then agN 1 (-pn) 1 pd else 0
def slD (n pn pd : Int) : Int := if slOk n pn pd then agD 1 (-pn) 1 pd else 0
theorem T3.cells2 {w W : World} {a c r : Nat} {A B C D X Y : Value} (h : T3 w W a c r A B C D X Y) : W.cell? ⟨a, 0, none⟩ = some A ∧ W.cell? ⟨a, 1, none⟩ = some B ∧ T3 w W a c r A B C D X Y := ⟨h.1.1.1, h.1.1.2.1, h⟩
set_option maxRecDepth 100000 in
set_option maxHeartbeats 8000000 in
theorem silence_impl (n pn pd : Int) (w : World) (wg1 : -9223372036854775808 ≤ pn) (wg2 : pn ≤ 9223372036854775807) :
    Calls Try.prog 63 #[.int .i64 n, .agg #[.int .i64 pn, .int .i64 pd]] w fun e w' => e = .returned (.tuple #[.agg #[.int .i64 (slN n pn pd), .int .i64 (slD n pn pd)], .bool (slOk n pn pd)]) ∧ Below w.heap.size w w' := by
  have F0 := fbox_alloc (fbox_new w (.int .i64 pn) (.int .i64 pd) 24) (.cells #[.int .i64 0, .int .i64 0] 24)
  have R0 := fbox_new (w.alloc (.cells #[.int .i64 pn, .int .i64 pd] 24)) (.int .i64 0) (.int .i64 0) 24
  have B0 := balloc (balloc (Below.refl w.heap.size w) (.cells #[.int .i64 pn, .int .i64 pd] 24)) (.cells #[.int .i64 0, .int .i64 0] 24)
  have e1 : (w.alloc (.cells #[.int .i64 pn, .int .i64 pd] 24)).heap.size = w.heap.size + 1 := by simp
  have t0 : T3 w _ _ _ _ _ _ _ _ _ _ := ⟨F0, R0, R0, B0⟩
  rw [e1] at t0
  obtain ⟨W0, hW0⟩ : ∃ W0, W0 = (w.alloc (.cells #[.int .i64 pn, .int .i64 pd] 24)).alloc (.cells #[.int .i64 0, .int .i64 0] 24) := ⟨_, rfl⟩
  rw [← hW0] at t0
  have T0 := Lib.hid t0
  have HW0 := Lib.hid hW0
  clear F0 R0 B0 e1 t0 hW0
  have HW := Lib.hid (fun W => whole_any 1 W)
  have HSB := Lib.hid (fun W => sub_impl 1 1 pn pd W (by omega) (by omega) wg1 wg2)
  have HST := Lib.hid (fun W => areStations_any n W)
  obtain ⟨X, hX⟩ : ∃ X, agN 1 (-pn) 1 pd = X := ⟨_, rfl⟩
  obtain ⟨Y, hY⟩ : ∃ Y, agD 1 (-pn) 1 pd = Y := ⟨_, rfl⟩
  obtain ⟨Z, hZ0⟩ : ∃ Z, agB 1 (-pn) 1 pd = Z := ⟨_, rfl⟩
  rw [hX, hY, hZ0] at HSB
  have HX := Lib.hid hX
  have HY := Lib.hid hY
  have HZ := Lib.hid hZ0
  clear hX hY hZ0
  go_enter Try.func63, Try.ntmps63
  go_wp2_with fail
  rw [← HW0.out]
  have t0 := T3.keep T0.out (Below.refl _ _).drew
  have l0 : w.heap.size + 1 < W0.heap.size := T0.out.2.2.1.1.2.2
  obtain ⟨q0, q1, -⟩ := t0.cells2
  go_region_held3 (fun w' => w'.cell? ⟨w.heap.size, 0, none⟩ = some (.int .i64 pn) ∧ w'.cell? ⟨w.heap.size, 1, none⟩ = some (.int .i64 pd) ∧ T3 w w' w.heap.size (w.heap.size + 1) (w.heap.size + 1) (.int .i64 pn) (.int .i64 pd) (.int .i64 0) (.int .i64 0) (.int .i64 0) (.int .i64 0)) ((first | (with_reducible (refine T3.cells2 ?_; first | assumption | exact T3.made (by assumption) _); done) | (with_reducible refine T3.cells2 (T3.stored (by assumption) _ _ ?_ ?_ ?_ ?_) <;> (first | omega | (simp; omega))) | exact T3.cells2 t0 | exact T3.cells2 (T3.made t0 _) | exact T3.cells2 ((T3.made T0.out _).keep (Below.refl _ _).drew)))
    (first
      | (go_at_call 65; refine (HW.out _).mono ?_; rintro e w8 ⟨rfl, hb8⟩; (first | (have t8 := T3.keep t0 hb8) | (have t8 := T3.keep (T3.made t0 _) hb8; have u8 := fbox_keep (fbox_new _ _ _ _) hb8) | (have t8 := T3.keep ((T3.made T0.out _).keep (Below.refl _ _).drew) hb8; have u8 := fbox_keep (fbox_keep (fbox_new _ _ _ _) (Below.refl _ _).drew) hb8)); have l8 := t8.2.2.1.1.2.2)
      | (go_at_call 24; refine (HSB.out _).mono ?_; rintro e w9 ⟨rfl, hb9⟩; (first | ((with_reducible have t9 := T3.keep t8 hb9); try (have u9 := fbox_keep u8 hb9; obtain ⟨⟨x0, x1, x5⟩, x2, x3⟩ := u9; (try simp at x0); (try simp at x1); (try simp at x2); (try simp at x3))) | ((with_reducible have t9 := T3.keep (T3.made t8 _) hb9); (with_reducible have u9 := fbox_keep (fbox_new _ _ _ _) hb9); obtain ⟨⟨x0, x1, x5⟩, x2, x3⟩ := u9)); have l9 := t9.2.2.1.1.2.2))
  · have tS := T3.made t9 (.cells #[.int .i64 X, .int .i64 Y] 24)
    have uS := fbox_new w9 (.int .i64 X) (.int .i64 Y) 24
    have hbb := l9
    generalize w9.heap.size = bb at *
    generalize w9.alloc (.cells #[.int .i64 X, .int .i64 Y] 24) = W at *
    have tt := tS
    obtain ⟨⟨⟨q0, q1, -⟩, -, -⟩, -, ⟨⟨z0, z1, -⟩, z2, z3⟩, -⟩ := tt
    have uu := uS
    obtain ⟨⟨y0, y1, -⟩, -, -⟩ := uu
    cases hZ : Z
    · have hh := HZ.out.trans hZ
      have e3 : slOk n pn pd = false := by unfold slOk; rw [hh]; simp
      have e1 : slN n pn pd = 0 := by unfold slN; rw [e3]; rfl
      have e2 : slD n pn pd = 0 := by unfold slD; rw [e3]; rfl
      go_wp2_with fail
      refine bodyPost_ret (v := .tuple #[.agg #[.int .i64 0, .int .i64 0], .bool false]) (by simp [results, Try.results63, go_sem, z0, z1]) rfl ⟨by rw [e1, e2, e3], ?_⟩
      exact (tS.2.2.2.setCell (by simp) _).setCell (by simp) _
    · have hh := HZ.out.trans hZ
      go_wp2_with fail
      refine (HST.out _).mono ?_; rintro e w' ⟨rfl, rfl⟩
      cases hR : rgB 1 12 n
      · skip
        have e3 : slOk n pn pd = false := by unfold slOk; rw [hh, hR]; simp
        have e1 : slN n pn pd = 0 := by unfold slN; rw [e3]; rfl
        have e2 : slD n pn pd = 0 := by unfold slD; rw [e3]; rfl
        go_wp2_with fail
        refine bodyPost_ret (v := .tuple #[.agg #[.int .i64 0, .int .i64 0], .bool false]) (by simp [results, Try.results63, go_sem, z0, z1]) rfl ⟨by rw [e1, e2, e3], ?_⟩
        exact (tS.2.2.2.setCell (by simp) _).setCell (by simp) _
      · by_cases hp : pn < 0
        · have hp2 : decide (0 ≤ pn) = false := decide_eq_false (by omega)
          have e3 : slOk n pn pd = false := by unfold slOk; rw [hh, hR, hp2]; simp
          have e1 : slN n pn pd = 0 := by unfold slN; rw [e3]; rfl
          have e2 : slD n pn pd = 0 := by unfold slD; rw [e3]; rfl
          go_wp2_with fail
          refine bodyPost_ret (v := .tuple #[.agg #[.int .i64 0, .int .i64 0], .bool false]) (by simp [results, Try.results63, go_sem, z0, z1]) rfl ⟨by rw [e1, e2, e3], ?_⟩
          exact (tS.2.2.2.setCell (by simp) _).setCell (by simp) _
        · have hp2 : decide (0 ≤ pn) = true := decide_eq_true (by omega)
          by_cases hx : X < 0
          · have hx2 : decide (0 ≤ agN 1 (-pn) 1 pd) = false := decide_eq_false (by rw [HX.out]; omega)
            have e3 : slOk n pn pd = false := by unfold slOk; rw [hh, hR, hp2, hx2]; simp
            have e1 : slN n pn pd = 0 := by unfold slN; rw [e3]; rfl
            have e2 : slD n pn pd = 0 := by unfold slD; rw [e3]; rfl
            go_wp2_with fail
            refine bodyPost_ret (v := .tuple #[.agg #[.int .i64 0, .int .i64 0], .bool false]) (by simp [results, Try.results63, go_sem, z0, z1]) rfl ⟨by rw [e1, e2, e3], ?_⟩
            exact (tS.2.2.2.setCell (by simp) _).setCell (by simp) _
          · have hx2 : decide (0 ≤ agN 1 (-pn) 1 pd) = true := decide_eq_true (by rw [HX.out]; omega)
            have e3 : slOk n pn pd = true := by unfold slOk; rw [hh, hR, hp2, hx2]; rfl
            have e1 : slN n pn pd = X := by unfold slN; rw [e3]; exact HX.out
            have e2 : slD n pn pd = Y := by unfold slD; rw [e3]; exact HY.out
            go_wp2_with fail
            refine bodyPost_ret (v := .tuple #[.agg #[.int .i64 X, .int .i64 Y], .bool true]) (by simp [results, Try.results63, go_sem, z0, z1]) rfl ⟨by rw [e1, e2, e3], ?_⟩
            exact (tS.2.2.2.setCell (by simp) _).setCell (by simp) _
  · have uT : FBox w9 w8.heap.size (.int .i64 0) (.int .i64 0) := ⟨⟨x0, x1, by simpa using x5⟩, x2, x3⟩
    have uS := fbox_set uT (.int .i64 X) (.int .i64 Y)
    have hbb := l8
    have tS := T3.stored t9 (bb := w8.heap.size) (.int .i64 X) (.int .i64 Y) (by omega) (by omega) (by omega) (by omega)
    clear uT x0 x1 x2 x3 x5
    generalize w8.heap.size = bb at *
    generalize (w9.setCell ⟨bb, 0, none⟩ (.int .i64 X)).setCell ⟨bb, 1, none⟩ (.int .i64 Y) = W at *
    have tt := tS
    obtain ⟨⟨⟨q0, q1, -⟩, -, -⟩, -, ⟨⟨z0, z1, -⟩, z2, z3⟩, -⟩ := tt
    have uu := uS
    obtain ⟨⟨y0, y1, -⟩, -, -⟩ := uu
    cases hZ : Z
    · have hh := HZ.out.trans hZ
      have e3 : slOk n pn pd = false := by unfold slOk; rw [hh]; simp
      have e1 : slN n pn pd = 0 := by unfold slN; rw [e3]; rfl
      have e2 : slD n pn pd = 0 := by unfold slD; rw [e3]; rfl
      go_wp2_with fail
      refine bodyPost_ret (v := .tuple #[.agg #[.int .i64 0, .int .i64 0], .bool false]) (by simp [results, Try.results63, go_sem, z0, z1]) rfl ⟨by rw [e1, e2, e3], ?_⟩
      exact (tS.2.2.2.setCell (by simp) _).setCell (by simp) _
    · have hh := HZ.out.trans hZ
      go_wp2_with fail
      refine (HST.out _).mono ?_; rintro e w' ⟨rfl, rfl⟩
      cases hR : rgB 1 12 n
      · skip
        have e3 : slOk n pn pd = false := by unfold slOk; rw [hh, hR]; simp
        have e1 : slN n pn pd = 0 := by unfold slN; rw [e3]; rfl
        have e2 : slD n pn pd = 0 := by unfold slD; rw [e3]; rfl
        go_wp2_with fail
        refine bodyPost_ret (v := .tuple #[.agg #[.int .i64 0, .int .i64 0], .bool false]) (by simp [results, Try.results63, go_sem, z0, z1]) rfl ⟨by rw [e1, e2, e3], ?_⟩
        exact (tS.2.2.2.setCell (by simp) _).setCell (by simp) _
      · by_cases hp : pn < 0
        · have hp2 : decide (0 ≤ pn) = false := decide_eq_false (by omega)
          have e3 : slOk n pn pd = false := by unfold slOk; rw [hh, hR, hp2]; simp
          have e1 : slN n pn pd = 0 := by unfold slN; rw [e3]; rfl
          have e2 : slD n pn pd = 0 := by unfold slD; rw [e3]; rfl
          go_wp2_with fail
          refine bodyPost_ret (v := .tuple #[.agg #[.int .i64 0, .int .i64 0], .bool false]) (by simp [results, Try.results63, go_sem, z0, z1]) rfl ⟨by rw [e1, e2, e3], ?_⟩
          exact (tS.2.2.2.setCell (by simp) _).setCell (by simp) _
        · have hp2 : decide (0 ≤ pn) = true := decide_eq_true (by omega)
          by_cases hx : X < 0
          · have hx2 : decide (0 ≤ agN 1 (-pn) 1 pd) = false := decide_eq_false (by rw [HX.out]; omega)
            have e3 : slOk n pn pd = false := by unfold slOk; rw [hh, hR, hp2, hx2]; simp
            have e1 : slN n pn pd = 0 := by unfold slN; rw [e3]; rfl
            have e2 : slD n pn pd = 0 := by unfold slD; rw [e3]; rfl
            go_wp2_with fail
            refine bodyPost_ret (v := .tuple #[.agg #[.int .i64 0, .int .i64 0], .bool false]) (by simp [results, Try.results63, go_sem, z0, z1]) rfl ⟨by rw [e1, e2, e3], ?_⟩
            exact (tS.2.2.2.setCell (by simp) _).setCell (by simp) _
          · have hx2 : decide (0 ≤ agN 1 (-pn) 1 pd) = true := decide_eq_true (by rw [HX.out]; omega)
            have e3 : slOk n pn pd = true := by unfold slOk; rw [hh, hR, hp2, hx2]; rfl
            have e1 : slN n pn pd = X := by unfold slN; rw [e3]; exact HX.out
            have e2 : slD n pn pd = Y := by unfold slD; rw [e3]; exact HY.out
            go_wp2_with fail
            refine bodyPost_ret (v := .tuple #[.agg #[.int .i64 X, .int .i64 Y], .bool true]) (by simp [results, Try.results63, go_sem, z0, z1]) rfl ⟨by rw [e1, e2, e3], ?_⟩
            exact (tS.2.2.2.setCell (by simp) _).setCell (by simp) _
  · have uT : FBox w9 W0.heap.size (.int .i64 0) (.int .i64 0) := ⟨⟨x0, x1, by simpa using x5⟩, x2, x3⟩
    have uS := fbox_set uT (.int .i64 X) (.int .i64 Y)
    have hbb := l0
    have tS := T3.stored t9 (bb := W0.heap.size) (.int .i64 X) (.int .i64 Y) (by omega) (by omega) (by omega) (by omega)
    clear uT x0 x1 x2 x3 x5
    generalize W0.heap.size = bb at *
    generalize (w9.setCell ⟨bb, 0, none⟩ (.int .i64 X)).setCell ⟨bb, 1, none⟩ (.int .i64 Y) = W at *
    have tt := tS
    obtain ⟨⟨⟨q0, q1, -⟩, -, -⟩, -, ⟨⟨z0, z1, -⟩, z2, z3⟩, -⟩ := tt
    have uu := uS
    obtain ⟨⟨y0, y1, -⟩, -, -⟩ := uu
    cases hZ : Z
    · have hh := HZ.out.trans hZ
      have e3 : slOk n pn pd = false := by unfold slOk; rw [hh]; simp
      have e1 : slN n pn pd = 0 := by unfold slN; rw [e3]; rfl
      have e2 : slD n pn pd = 0 := by unfold slD; rw [e3]; rfl
      go_wp2_with fail
      refine bodyPost_ret (v := .tuple #[.agg #[.int .i64 0, .int .i64 0], .bool false]) (by simp [results, Try.results63, go_sem, z0, z1]) rfl ⟨by rw [e1, e2, e3], ?_⟩
      exact (tS.2.2.2.setCell (by simp) _).setCell (by simp) _
    · have hh := HZ.out.trans hZ
      go_wp2_with fail
      refine (HST.out _).mono ?_; rintro e w' ⟨rfl, rfl⟩
      cases hR : rgB 1 12 n
      · skip
        have e3 : slOk n pn pd = false := by unfold slOk; rw [hh, hR]; simp
        have e1 : slN n pn pd = 0 := by unfold slN; rw [e3]; rfl
        have e2 : slD n pn pd = 0 := by unfold slD; rw [e3]; rfl
        go_wp2_with fail
        refine bodyPost_ret (v := .tuple #[.agg #[.int .i64 0, .int .i64 0], .bool false]) (by simp [results, Try.results63, go_sem, z0, z1]) rfl ⟨by rw [e1, e2, e3], ?_⟩
        exact (tS.2.2.2.setCell (by simp) _).setCell (by simp) _
      · by_cases hp : pn < 0
        · have hp2 : decide (0 ≤ pn) = false := decide_eq_false (by omega)
          have e3 : slOk n pn pd = false := by unfold slOk; rw [hh, hR, hp2]; simp
          have e1 : slN n pn pd = 0 := by unfold slN; rw [e3]; rfl
          have e2 : slD n pn pd = 0 := by unfold slD; rw [e3]; rfl
          go_wp2_with fail
          refine bodyPost_ret (v := .tuple #[.agg #[.int .i64 0, .int .i64 0], .bool false]) (by simp [results, Try.results63, go_sem, z0, z1]) rfl ⟨by rw [e1, e2, e3], ?_⟩
          exact (tS.2.2.2.setCell (by simp) _).setCell (by simp) _
        · have hp2 : decide (0 ≤ pn) = true := decide_eq_true (by omega)
          by_cases hx : X < 0
          · have hx2 : decide (0 ≤ agN 1 (-pn) 1 pd) = false := decide_eq_false (by rw [HX.out]; omega)
            have e3 : slOk n pn pd = false := by unfold slOk; rw [hh, hR, hp2, hx2]; simp
            have e1 : slN n pn pd = 0 := by unfold slN; rw [e3]; rfl
            have e2 : slD n pn pd = 0 := by unfold slD; rw [e3]; rfl
            go_wp2_with fail
            refine bodyPost_ret (v := .tuple #[.agg #[.int .i64 0, .int .i64 0], .bool false]) (by simp [results, Try.results63, go_sem, z0, z1]) rfl ⟨by rw [e1, e2, e3], ?_⟩
            exact (tS.2.2.2.setCell (by simp) _).setCell (by simp) _
          · have hx2 : decide (0 ≤ agN 1 (-pn) 1 pd) = true := decide_eq_true (by rw [HX.out]; omega)
            have e3 : slOk n pn pd = true := by unfold slOk; rw [hh, hR, hp2, hx2]; rfl
            have e1 : slN n pn pd = X := by unfold slN; rw [e3]; exact HX.out
            have e2 : slD n pn pd = Y := by unfold slD; rw [e3]; exact HY.out
            go_wp2_with fail
            refine bodyPost_ret (v := .tuple #[.agg #[.int .i64 X, .int .i64 Y], .bool true]) (by simp [results, Try.results63, go_sem, z0, z1]) rfl ⟨by rw [e1, e2, e3], ?_⟩
            exact (tS.2.2.2.setCell (by simp) _).setCell (by simp) _
end Go.Proofs.Ytmhdjimdhcephab
