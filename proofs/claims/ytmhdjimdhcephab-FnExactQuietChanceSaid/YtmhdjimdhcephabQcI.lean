/- The program's QuietChance. -/
import Derived.Test.YtmhdjimdhcephabSlI
namespace Go.Proofs.Ytmhdjimdhcephab
open Go Go.RowKit
set_option linter.unusedVariables false

/-- What QuietChance answers. -/
def qcS (n pn pd : Int) : Int × Int × Bool := if slOk n pn pd then tpS 1 1 (slN n pn pd) (slD n pn pd) n.toNat else (0, 0, false)
theorem sl_bd {n pn pd : Int} (h : slOk n pn pd = true) : (1 ≤ n ∧ n ≤ 12) ∧ -1000000000000000000 ≤ slN n pn pd ∧ slN n pn pd ≤ 1000000000000000000 := by
  have hn : slN n pn pd = agN 1 (-pn) 1 pd := by unfold slN; rw [h]; rfl
  unfold slOk at h
  obtain ⟨h1, h2⟩ := Bool.and_eq_true_iff.1 h
  obtain ⟨h3, h4⟩ := Bool.and_eq_true_iff.1 h2
  refine ⟨of_decide_eq_true h3, ?_⟩
  rw [hn]
  unfold agN
  split
  · unfold foN
    split
    · rename_i hh; exact of_decide_eq_true hh.1
    · omega
  · omega
set_option maxRecDepth 100000 in
set_option maxHeartbeats 8000000 in
theorem quiet_impl (n pn pd : Int) (w : World) (wg1 : -9223372036854775808 ≤ pn) (wg2 : pn ≤ 9223372036854775807) :
    Calls Try.prog 17 #[.int .i64 n, .agg #[.int .i64 pn, .int .i64 pd]] w fun e w' => e = .returned (.tuple #[.agg #[.int .i64 (qcS n pn pd).1, .int .i64 (qcS n pn pd).2.1], .bool (qcS n pn pd).2.2]) ∧ Below w.heap.size w w' := by
  have F0 := fbox_alloc (fbox_new w (.int .i64 pn) (.int .i64 pd) 24) (.cells #[.int .i64 0, .int .i64 0] 24)
  have R0 := fbox_new (w.alloc (.cells #[.int .i64 pn, .int .i64 pd] 24)) (.int .i64 0) (.int .i64 0) 24
  have B0 := balloc (balloc (Below.refl w.heap.size w) (.cells #[.int .i64 pn, .int .i64 pd] 24)) (.cells #[.int .i64 0, .int .i64 0] 24)
  have e1 : (w.alloc (.cells #[.int .i64 pn, .int .i64 pd] 24)).heap.size = w.heap.size + 1 := by simp
  have t0 : T3 w _ _ _ _ _ _ _ _ _ _ := ⟨F0, R0, R0, B0⟩
  rw [e1] at t0
  have T0 := Lib.hid t0
  clear F0 R0 B0 e1 t0
  have HSL := Lib.hid (fun W => silence_impl n pn pd W wg1 wg2)
  obtain ⟨q0, q1, -⟩ := T0.out.cells2
  cases hs : slOk n pn pd
  · have e1 : qcS n pn pd = (0, 0, false) := by unfold qcS; rw [hs]; rfl
    rw [e1]
    rw [hs] at HSL
    clear e1 hs
    go_enter Try.func17, Try.ntmps17
    go_wp2_with fail
    refine (HSL.out _).mono ?_; rintro e w1 ⟨rfl, hb1⟩
    have t1 := T3.made (T3.keep T0.out hb1) (.cells #[.int .i64 (slN n pn pd), .int .i64 (slD n pn pd)] 24)
    have tt := t1
    obtain ⟨-, -, ⟨⟨z0, z1, -⟩, z2, z3⟩, tb⟩ := tt
    clear q0 q1
    go_wp2_with fail
    refine bodyPost_ret (v := .tuple #[.agg #[.int .i64 0, .int .i64 0], .bool false]) (by simp [results, Try.results17, go_sem, z0, z1]) rfl ⟨rfl, ?_⟩
    exact (tb.setCell (by simp) _).setCell (by simp) _
  · have e1 : qcS n pn pd = tpS 1 1 (slN n pn pd) (slD n pn pd) n.toNat := by unfold qcS; rw [hs]; rfl
    obtain ⟨⟨n1, n2⟩, b1, b2⟩ := sl_bd hs
    rw [e1]
    rw [hs] at HSL
    clear e1 hs
    obtain ⟨m, rfl⟩ : ∃ m : Nat, n = (m : Int) := ⟨n.toNat, by omega⟩
    rw [Int.toNat_natCast]
    generalize slN m pn pd = x at *
    generalize slD m pn pd = y at *
    have HTP := Lib.hid (fun W => timesPower_any 1 1 x y m W (by omega) (by omega) (by omega) (by omega) (by omega))
    have HW := Lib.hid (fun W => whole_any 1 W)
    generalize (tpS 1 1 x y m).1 = X at *
    generalize (tpS 1 1 x y m).2.1 = Y at *
    generalize (tpS 1 1 x y m).2.2 = Z at *
    go_enter Try.func17, Try.ntmps17
    go_wp2_with fail
    refine (HSL.out _).mono ?_; rintro e w1 ⟨rfl, hb1⟩
    have t1 := T3.made (T3.keep T0.out hb1) (.cells #[.int .i64 x, .int .i64 y] 24)
    have u1 := fbox_new w1 (.int .i64 x) (.int .i64 y) 24
    have l1 : w.heap.size + 1 < w1.heap.size := (T3.keep T0.out hb1).2.2.1.1.2.2
    clear q0 q1 hb1
    go_wp2_with fail
    generalize w1.heap.size = bb at *
    generalize w1.alloc (.cells #[.int .i64 x, .int .i64 y] 24) = W1 at *
    have t2 := t1.keep (Below.refl _ _).drew
    have u2 := fbox_keep u1 (Below.refl _ _).drew
    have uu := u2
    obtain ⟨⟨y0, y1, -⟩, -, -⟩ := uu
    go_region_held3 (fun w' => w'.cell? ⟨bb, 0, none⟩ = some (.int .i64 x) ∧ w'.cell? ⟨bb, 1, none⟩ = some (.int .i64 y)) ((first | exact ⟨y0, y1⟩ | exact ⟨z4, z5⟩ | (refine ⟨?_, ?_⟩ <;> (rw [World.cell?_setCell_far _ _ _ _ (by first | omega | (simp; omega) | simp), World.cell?_setCell_far _ _ _ _ (by first | omega | (simp; omega) | simp)]; assumption)) | (simp [*]; done)))
      (first
        | (go_at_call 65; refine (HW.out _).mono ?_; rintro e w14 ⟨rfl, hb14⟩; have t14 := T3.keep t2 hb14; have u14 := fbox_keep u2 hb14; have uu := u14; obtain ⟨⟨z4, z5, -⟩, -, -⟩ := uu)
        | (go_at_call 64; refine (HTP.out _).mono ?_; rintro e w16 ⟨rfl, hb16⟩; have t16 := T3.keep t14 hb16; have u16 := fbox_keep u14 hb16; have uu := u16; obtain ⟨⟨z4, z5, -⟩, -, -⟩ := uu; have tt := t16; obtain ⟨-, -, ⟨⟨z6, z7, -⟩, z8, z9⟩, -⟩ := tt))
    have tb := t16.2.2.2
    go_wp2_with fail
    refine bodyPost_ret (v := .tuple #[.agg #[.int .i64 X, .int .i64 Y], .bool Z]) (by simp [results, Try.results17, go_sem, z6, z7]) rfl ⟨rfl, ?_⟩
    exact (tb.setCell (by simp) _).setCell (by simp) _
end Go.Proofs.Ytmhdjimdhcephab
