/- The program's SuccessChance. -/
import Derived.Test.YtmhdjimdhcephabQcI
namespace Go.Proofs.Ytmhdjimdhcephab
open Go Go.RowKit
set_option linter.unusedVariables false

/-- What SuccessChance answers. -/
def scS (n pn pd : Int) : Int × Int × Bool := if slOk n pn pd then tpS (mlN n 1 pn pd) (mlD n 1 pn pd) (slN n pn pd) (slD n pn pd) (n - 1).toNat else (0, 0, false)
set_option maxRecDepth 100000 in
set_option maxHeartbeats 8000000 in
theorem success_impl (n pn pd : Int) (w : World) (wg1 : -9223372036854775808 ≤ pn) (wg2 : pn ≤ 9223372036854775807) :
    Calls Try.prog 20 #[.int .i64 n, .agg #[.int .i64 pn, .int .i64 pd]] w fun e w' => e = .returned (.tuple #[.agg #[.int .i64 (scS n pn pd).1, .int .i64 (scS n pn pd).2.1], .bool (scS n pn pd).2.2]) ∧ Below w.heap.size w w' := by
  have F0 := fbox_alloc (fbox_new w (.int .i64 pn) (.int .i64 pd) 24) (.cells #[.int .i64 0, .int .i64 0] 24)
  have R0 := fbox_new (w.alloc (.cells #[.int .i64 pn, .int .i64 pd] 24)) (.int .i64 0) (.int .i64 0) 24
  have B0 := balloc (balloc (Below.refl w.heap.size w) (.cells #[.int .i64 pn, .int .i64 pd] 24)) (.cells #[.int .i64 0, .int .i64 0] 24)
  have e1 : (w.alloc (.cells #[.int .i64 pn, .int .i64 pd] 24)).heap.size = w.heap.size + 1 := by simp
  have t0 : T3 w _ _ _ _ _ _ _ _ _ _ := ⟨F0, R0, R0, B0⟩
  rw [e1] at t0
  have T0 := Lib.hid t0
  clear F0 R0 B0 e1 t0
  have HSL := Lib.hid (fun W => silence_impl n pn pd W wg1 wg2)
  obtain ⟨q0, q1, -⟩ := T0.out.cells2
  cases hs : slOk n pn pd
  · have e1 : scS n pn pd = (0, 0, false) := by unfold scS; rw [hs]; rfl
    rw [e1]
    rw [hs] at HSL
    clear e1 hs
    go_enter Try.func20, Try.ntmps20
    go_wp2_with fail
    refine (HSL.out _).mono ?_; rintro e w1 ⟨rfl, hb1⟩
    have t1 := T3.made (T3.keep T0.out hb1) (.cells #[.int .i64 (slN n pn pd), .int .i64 (slD n pn pd)] 24)
    have tt := t1
    obtain ⟨-, -, ⟨⟨z0, z1, -⟩, z2, z3⟩, tb⟩ := tt
    clear q0 q1
    go_wp2_with fail
    refine bodyPost_ret (v := .tuple #[.agg #[.int .i64 0, .int .i64 0], .bool false]) (by simp [results, Try.results20, go_sem, z0, z1]) rfl ⟨rfl, ?_⟩
    exact (tb.setCell (by simp) _).setCell (by simp) _
  · have e1 : scS n pn pd = tpS (mlN n 1 pn pd) (mlD n 1 pn pd) (slN n pn pd) (slD n pn pd) (n - 1).toNat := by unfold scS; rw [hs]; rfl
    obtain ⟨⟨n1, n2⟩, b1, b2⟩ := sl_bd hs
    rw [e1]
    rw [hs] at HSL
    clear e1 hs
    obtain ⟨m, hm⟩ : ∃ m : Nat, m = (n - 1).toNat := ⟨_, rfl⟩
    rw [← hm]
    have hm2 : m ≤ 1000 := by omega
    have wn : IntKind.i64.wrap (n - 1) = (m : Int) := (IntWalk.i64_in _ (by omega)).trans (by omega)
    clear hm
    have HML := Lib.hid (fun W => mul_impl n 1 pn pd W (by omega) (by omega) wg1 wg2)
    obtain ⟨c1, c2⟩ := mlN_bd n 1 pn pd
    generalize slN n pn pd = x at *
    generalize slD n pn pd = y at *
    generalize mlN n 1 pn pd = X at *
    generalize mlD n 1 pn pd = Y at *
    generalize mlB n 1 pn pd = V at *
    have HTP := Lib.hid (fun W => timesPower_any X Y x y m W hm2 (by omega) (by omega) (by omega) (by omega))
    have HW := Lib.hid (fun W => whole_any n W)
    generalize (tpS X Y x y m).1 = RN at *
    generalize (tpS X Y x y m).2.1 = RD at *
    generalize (tpS X Y x y m).2.2 = RZ at *
    go_enter Try.func20, Try.ntmps20
    go_wp2_with fail
    refine (HSL.out _).mono ?_; rintro e w1 ⟨rfl, hb1⟩
    have t1 := T3.made (T3.keep T0.out hb1) (.cells #[.int .i64 x, .int .i64 y] 24)
    have u1 := fbox_new w1 (.int .i64 x) (.int .i64 y) 24
    have l1 : w.heap.size + 1 < w1.heap.size := (T3.keep T0.out hb1).2.2.1.1.2.2
    clear q0 q1 hb1
    go_wp2_with fail
    generalize w1.heap.size = bb1 at *
    generalize w1.alloc (.cells #[.int .i64 x, .int .i64 y] 24) = W0 at *
    have T1 : T3 w W0 w.heap.size bb1 (w.heap.size + 1) (.int .i64 pn) (.int .i64 pd) (.int .i64 x) (.int .i64 y) (.int .i64 0) (.int .i64 0) := ⟨t1.1, u1, t1.2.2.1, t1.2.2.2⟩
    have l0 : bb1 < W0.heap.size := u1.1.2.2
    clear t1 u1
    have t0 := T3.keep T1 (Below.refl _ _).drew
    obtain ⟨q0, q1, -⟩ := t0.cells2
    go_region_held3 (fun w' => w'.cell? ⟨w.heap.size, 0, none⟩ = some (.int .i64 pn) ∧ w'.cell? ⟨w.heap.size, 1, none⟩ = some (.int .i64 pd) ∧ T3 w w' w.heap.size bb1 (w.heap.size + 1) (.int .i64 pn) (.int .i64 pd) (.int .i64 x) (.int .i64 y) (.int .i64 0) (.int .i64 0)) ((first | (with_reducible (refine T3.cells2 ?_; first | assumption | exact T3.made (by assumption) _); done) | (with_reducible refine T3.cells2 (T3.stored (by assumption) _ _ ?_ ?_ ?_ ?_) <;> (first | omega | (simp; omega))) | exact T3.cells2 t0 | exact T3.cells2 (T3.made t0 _) | exact T3.cells2 ((T3.made T1 _).keep (Below.refl _ _).drew)))
      (first
        | (go_at_call 65; refine (HW.out _).mono ?_; rintro e w8 ⟨rfl, hb8⟩; (first | (have t8 := T3.keep t0 hb8) | (have t8 := T3.keep (T3.made t0 _) hb8; have u8 := fbox_keep (fbox_new _ _ _ _) hb8) | (have t8 := T3.keep ((T3.made T1 _).keep (Below.refl _ _).drew) hb8; have u8 := fbox_keep (fbox_keep (fbox_new _ _ _ _) (Below.refl _ _).drew) hb8)); have l8 := t8.2.1.1.2.2)
        | (go_at_call 66; refine (HML.out _).mono ?_; rintro e w9 ⟨rfl, hb9⟩; (first | ((with_reducible have t9 := T3.keep t8 hb9); try (have u9 := fbox_keep u8 hb9; obtain ⟨⟨x0, x1, x5⟩, x2, x3⟩ := u9; (try simp at x0); (try simp at x1); (try simp at x2); (try simp at x3))) | ((with_reducible have t9 := T3.keep (T3.made t8 _) hb9); (with_reducible have u9 := fbox_keep (fbox_new _ _ _ _) hb9); obtain ⟨⟨x0, x1, x5⟩, x2, x3⟩ := u9)); have l9 := t9.2.1.1.2.2))
    · have tS := T3.made t9 (.cells #[.int .i64 X, .int .i64 Y] 24)
      have uS := fbox_new w9 (.int .i64 X) (.int .i64 Y) 24
      generalize w9.heap.size = bb at *
      generalize w9.alloc (.cells #[.int .i64 X, .int .i64 Y] 24) = W at *
      have tt := tS
      obtain ⟨-, ⟨⟨q2, q3, -⟩, -, -⟩, -, -⟩ := tt
      have uu := uS
      obtain ⟨⟨y0, y1, -⟩, -, -⟩ := uu
      go_wp2_with fail
      refine (HTP.out _).mono ?_; rintro e w12 ⟨rfl, hb12⟩
      have t12 := T3.keep tS hb12
      have tt := t12
      obtain ⟨-, -, ⟨⟨z0, z1, -⟩, z2, z3⟩, tb⟩ := tt
      clear q2 q3 y0 y1
      go_wp2_with fail
      refine bodyPost_ret (v := .tuple #[.agg #[.int .i64 RN, .int .i64 RD], .bool RZ]) (by simp [results, Try.results20, go_sem, z0, z1]) rfl ⟨rfl, ?_⟩
      exact (tb.setCell (by simp) _).setCell (by simp) _
    · have uT : FBox w9 w8.heap.size (.int .i64 0) (.int .i64 0) := ⟨⟨x0, x1, by simpa using x5⟩, x2, x3⟩
      have uS := fbox_set uT (.int .i64 X) (.int .i64 Y)
      have tS := T3.stored t9 (bb := w8.heap.size) (.int .i64 X) (.int .i64 Y) (by omega) (by omega) (by omega) (by omega)
      clear uT x0 x1 x2 x3 x5
      generalize w8.heap.size = bb at *
      generalize (w9.setCell ⟨bb, 0, none⟩ (.int .i64 X)).setCell ⟨bb, 1, none⟩ (.int .i64 Y) = W at *
      have tt := tS
      obtain ⟨-, ⟨⟨q2, q3, -⟩, -, -⟩, -, -⟩ := tt
      have uu := uS
      obtain ⟨⟨y0, y1, -⟩, -, -⟩ := uu
      go_wp2_with fail
      refine (HTP.out _).mono ?_; rintro e w12 ⟨rfl, hb12⟩
      have t12 := T3.keep tS hb12
      have tt := t12
      obtain ⟨-, -, ⟨⟨z0, z1, -⟩, z2, z3⟩, tb⟩ := tt
      clear q2 q3 y0 y1
      go_wp2_with fail
      refine bodyPost_ret (v := .tuple #[.agg #[.int .i64 RN, .int .i64 RD], .bool RZ]) (by simp [results, Try.results20, go_sem, z0, z1]) rfl ⟨rfl, ?_⟩
      exact (tb.setCell (by simp) _).setCell (by simp) _
    · have uT : FBox w9 W0.heap.size (.int .i64 0) (.int .i64 0) := ⟨⟨x0, x1, by simpa using x5⟩, x2, x3⟩
      have uS := fbox_set uT (.int .i64 X) (.int .i64 Y)
      have tS := T3.stored t9 (bb := W0.heap.size) (.int .i64 X) (.int .i64 Y) (by omega) (by omega) (by omega) (by omega)
      clear uT x0 x1 x2 x3 x5
      generalize W0.heap.size = bb at *
      generalize (w9.setCell ⟨bb, 0, none⟩ (.int .i64 X)).setCell ⟨bb, 1, none⟩ (.int .i64 Y) = W at *
      have tt := tS
      obtain ⟨-, ⟨⟨q2, q3, -⟩, -, -⟩, -, -⟩ := tt
      have uu := uS
      obtain ⟨⟨y0, y1, -⟩, -, -⟩ := uu
      go_wp2_with fail
      refine (HTP.out _).mono ?_; rintro e w12 ⟨rfl, hb12⟩
      have t12 := T3.keep tS hb12
      have tt := t12
      obtain ⟨-, -, ⟨⟨z0, z1, -⟩, z2, z3⟩, tb⟩ := tt
      clear q2 q3 y0 y1
      go_wp2_with fail
      refine bodyPost_ret (v := .tuple #[.agg #[.int .i64 RN, .int .i64 RD], .bool RZ]) (by simp [results, Try.results20, go_sem, z0, z1]) rfl ⟨rfl, ?_⟩
      exact (tb.setCell (by simp) _).setCell (by simp) _
end Go.Proofs.Ytmhdjimdhcephab
