/- The program's product of fractions. -/
import Derived.Test.YtnpigefbdadjfaaDoorMulB
import Derived.Deep.RegionHeld3
namespace Go.Proofs.YtnpigefbdadjfaaDoor
open Go Go.RowKit
set_option linter.unusedVariables false

theorem mul_fits {x y : Int} (x1 : -1000000000000000000 ≤ x) (x2 : x ≤ 1000000000000000000) (y1 : -1000000000000000000 ≤ y) (y2 : y ≤ 1000000000000000000) : Fits (x * y) := by
  have h := mul_bd (x.natAbs : Int) (y.natAbs : Int) 1000000000000000000 1000000000000000000 (by omega) (by omega) (by omega) (by omega)
  have e := mul_parts x y
  generalize (x.natAbs : Int) * y.natAbs = P at *
  generalize x * y = Z at *
  unfold Fits
  split at e <;> omega

def T3 (w W : World) (a c r : Nat) (A B C D X Y : Value) : Prop := FBox W a A B ∧ FBox W c C D ∧ FBox W r X Y ∧ Below w.heap.size w W
theorem T3.keep {w W W' : World} {a c r : Nat} {A B C D X Y : Value} (h : T3 w W a c r A B C D X Y) (hb : Below W.heap.size W W') : T3 w W' a c r A B C D X Y :=
  ⟨fbox_keep h.1 hb, fbox_keep h.2.1 hb, fbox_keep h.2.2.1 hb, bnext h.2.2.2 hb⟩

set_option maxRecDepth 100000 in
theorem mul_impl (fn fd gn gd : Int) (w : World) (wf1 : -9223372036854775808 ≤ fn) (wf2 : fn ≤ 9223372036854775807) (wg1 : -9223372036854775808 ≤ gn) (wg2 : gn ≤ 9223372036854775807) :
    Calls Tryd.prog 24 #[.agg #[.int .i64 fn, .int .i64 fd], .agg #[.int .i64 gn, .int .i64 gd]] w fun e w' => e = .returned (.tuple #[.agg #[.int .i64 (mlN fn fd gn gd), .int .i64 (mlD fn fd gn gd)], .bool (mlB fn fd gn gd)]) ∧ Below w.heap.size w w' := by
  have F0 := Lib.hid (fbox_alloc (fbox_alloc (fbox_new w (.int .i64 fn) (.int .i64 fd) 36) (.cells #[.int .i64 gn, .int .i64 gd] 36)) (.cells #[.int .i64 0, .int .i64 0] 36))
  have G0 := Lib.hid (fbox_alloc (fbox_new (w.alloc (.cells #[.int .i64 fn, .int .i64 fd] 36)) (.int .i64 gn) (.int .i64 gd) 36) (.cells #[.int .i64 0, .int .i64 0] 36))
  have R0 := Lib.hid (fbox_new ((w.alloc (.cells #[.int .i64 fn, .int .i64 fd] 36)).alloc (.cells #[.int .i64 gn, .int .i64 gd] 36)) (.int .i64 0) (.int .i64 0) 36)
  have B0 := Lib.hid (balloc (balloc (balloc (Below.refl w.heap.size w) (.cells #[.int .i64 fn, .int .i64 fd] 36)) (.cells #[.int .i64 gn, .int .i64 gd] 36)) (.cells #[.int .i64 0, .int .i64 0] 36))
  cases hf : fIs fn fd
  · have HF := Lib.hid hf
    have e1 : mlN fn fd gn gd = 0 := if_neg (fun h => by rw [h.1] at hf; cases hf)
    have e2 : mlD fn fd gn gd = 0 := if_neg (fun h => by rw [h.1] at hf; cases hf)
    have e3 : mlB fn fd gn gd = false := if_neg (fun h => by rw [h.1] at hf; cases hf)
    rw [e1, e2, e3]
    clear e1 e2 e3 hf
    go_enter Tryd.func24, Tryd.ntmps24
    go_wp2_with fail
    refine (validFraction_impl _ _ _ wf1 wf2).mono ?_; rintro e w1 ⟨rfl, hb1⟩
    rw [HF.out]
    have R1 := Lib.hid (fbox_keep R0.out hb1)
    have B1 := Lib.hid (bnext B0.out hb1)
    clear hb1
    obtain ⟨⟨q0, q1, -⟩, q2, q3⟩ := R1.out
    simp at q0 q1 q2 q3
    go_wp2_with fail
    refine bodyPost_ret (v := .tuple #[.agg #[.int .i64 0, .int .i64 0], .bool false]) (by simp [results, Tryd.results24, go_sem, q0, q1]) rfl ⟨rfl, ?_⟩
    exact (B1.out.setCell (by simp; omega) _).setCell (by simp; omega) _
  · have HF := Lib.hid hf
    cases hg : fIs gn gd
    · have HG := Lib.hid hg
      have e1 : mlN fn fd gn gd = 0 := if_neg (fun h => by rw [h.2] at hg; cases hg)
      have e2 : mlD fn fd gn gd = 0 := if_neg (fun h => by rw [h.2] at hg; cases hg)
      have e3 : mlB fn fd gn gd = false := if_neg (fun h => by rw [h.2] at hg; cases hg)
      rw [e1, e2, e3]
      clear e1 e2 e3 hf hg
      go_enter Tryd.func24, Tryd.ntmps24
      go_wp2_with fail
      refine (validFraction_impl _ _ _ wf1 wf2).mono ?_; rintro e w1 ⟨rfl, hb1⟩
      rw [HF.out]
      have G1 := Lib.hid (fbox_keep G0.out hb1)
      have R1 := Lib.hid (fbox_keep R0.out hb1)
      have B1 := Lib.hid (bnext B0.out hb1)
      clear hb1
      obtain ⟨⟨q0, q1, -⟩, -, -⟩ := G1.out
      simp at q0 q1
      go_wp2_with fail
      refine (validFraction_impl _ _ _ wg1 wg2).mono ?_; rintro e w2 ⟨rfl, hb2⟩
      rw [HG.out]
      have R2 := Lib.hid (fbox_keep R1.out hb2)
      have B2 := Lib.hid (bnext B1.out hb2)
      clear hb2 q0 q1
      obtain ⟨⟨q0, q1, -⟩, q2, q3⟩ := R2.out
      simp at q0 q1 q2 q3
      go_wp2_with fail
      refine bodyPost_ret (v := .tuple #[.agg #[.int .i64 0, .int .i64 0], .bool false]) (by simp [results, Tryd.results24, go_sem, q0, q1]) rfl ⟨rfl, ?_⟩
      exact (B2.out.setCell (by simp; omega) _).setCell (by simp; omega) _
    · have HG := Lib.hid hg
      have e1 : mlN fn fd gn gd = foN (mkN fn gd * mkN gn fd) (mkD fn gd * mkD gn fd) := if_pos ⟨hf, hg⟩
      have e2 : mlD fn fd gn gd = foD (mkN fn gd * mkN gn fd) (mkD fn gd * mkD gn fd) := if_pos ⟨hf, hg⟩
      have e3 : mlB fn fd gn gd = (ptB (mkN fn gd * mkN gn fd) && ptB (mkD fn gd * mkD gn fd)) := if_pos ⟨hf, hg⟩
      rw [e1, e2, e3]
      clear e1 e2 e3
      obtain ⟨⟨f3, f4⟩, f1, f2⟩ := fIs_bd hf
      obtain ⟨⟨g3, g4⟩, g1, g2⟩ := fIs_bd hg
      obtain ⟨⟨a1, a2⟩, b1, b2⟩ := mk_bd fn gd (by omega) f1 f2 (by omega) (by omega)
      obtain ⟨⟨c1, c2⟩, d1, d2⟩ := mk_bd gn fd (by omega) g1 g2 (by omega) (by omega)
      have HM1 := Lib.hid (fun W => make_yes_impl fn gd W (by omega) f1 f2 (by omega) (by omega))
      have HM2 := Lib.hid (fun W => make_yes_impl gn fd W (by omega) g1 g2 (by omega) (by omega))
      generalize mkN fn gd = A at *
      generalize mkD fn gd = B at *
      generalize mkN gn fd = C at *
      generalize mkD gn fd = D at *
      have HP1 := Lib.hid (fun W => productOf_any A C W a1 a2 c1 c2)
      have HP2 := Lib.hid (fun W => productOf_any B D W (by omega) b2 (by omega) d2)
      have ha := mul_fits a1 a2 c1 c2
      have hb := mul_fits (x := B) (y := D) (by omega) b2 (by omega) d2
      have HFO := Lib.hid (fun W => fractionOf_any (A * C) (B * D) W ha hb)
      clear hf hg ha hb
      generalize foN (A * C) (B * D) = X at *
      generalize foD (A * C) (B * D) = Y at *
      generalize (ptB (A * C) && ptB (B * D)) = Z at *
      generalize A * C = P at *
      generalize B * D = Q at *
      go_enter Tryd.func24, Tryd.ntmps24
      go_wp2_with fail
      refine (validFraction_impl _ _ _ wf1 wf2).mono ?_; rintro e w1 ⟨rfl, hb1⟩
      rw [HF.out]
      have F1 := Lib.hid (fbox_keep F0.out hb1)
      have G1 := Lib.hid (fbox_keep G0.out hb1)
      have R1 := Lib.hid (fbox_keep R0.out hb1)
      have B1 := Lib.hid (bnext B0.out hb1)
      clear hb1
      obtain ⟨⟨q0, q1, -⟩, -, -⟩ := G1.out
      simp at q0 q1
      go_wp2_with fail
      refine (validFraction_impl _ _ _ wg1 wg2).mono ?_; rintro e w2 ⟨rfl, hb2⟩
      rw [HG.out]
      have F2 := Lib.hid (fbox_keep F1.out hb2)
      have G2 := Lib.hid (fbox_keep G1.out hb2)
      have R2 := Lib.hid (fbox_keep R1.out hb2)
      have B2 := Lib.hid (bnext B1.out hb2)
      clear hb2 q0 q1
      obtain ⟨⟨q0, -, -⟩, -, -⟩ := F2.out
      obtain ⟨⟨-, q3, -⟩, -, -⟩ := G2.out
      simp at q0 q3
      go_wp2_with fail
      refine (HM1.out _).mono ?_; rintro e w3 ⟨rfl, hb3⟩
      have F3 := Lib.hid (fbox_alloc (fbox_keep F2.out hb3) (.cells #[.int .i64 A, .int .i64 B] 36))
      have G3 := Lib.hid (fbox_alloc (fbox_keep G2.out hb3) (.cells #[.int .i64 A, .int .i64 B] 36))
      have R3 := Lib.hid (fbox_alloc (fbox_keep R2.out hb3) (.cells #[.int .i64 A, .int .i64 B] 36))
      have A3 := Lib.hid (fbox_new w3 (.int .i64 A) (.int .i64 B) 36)
      have B3 := Lib.hid (balloc (bnext B2.out hb3) (.cells #[.int .i64 A, .int .i64 B] 36))
      have n3 : w.heap.size + 1 + 1 < w3.heap.size := by have := (fbox_keep R2.out hb3).1.2.2; simpa using this
      clear hb3 q0 q3
      obtain ⟨⟨-, q0, -⟩, -, -⟩ := F3.out
      obtain ⟨⟨q1, -, -⟩, -, -⟩ := G3.out
      simp at q0 q1
      go_wp2_with fail
      refine (HM2.out _).mono ?_; rintro e w4 ⟨rfl, hb4⟩
      have R4 := Lib.hid (fbox_alloc (fbox_keep R3.out hb4) (.cells #[.int .i64 C, .int .i64 D] 36))
      have A4 := Lib.hid (fbox_alloc (fbox_keep A3.out hb4) (.cells #[.int .i64 C, .int .i64 D] 36))
      have C4 := Lib.hid (fbox_new w4 (.int .i64 C) (.int .i64 D) 36)
      have B4 := Lib.hid (balloc (bnext B3.out hb4) (.cells #[.int .i64 C, .int .i64 D] 36))
      have n4 : w.heap.size + 1 + 1 < w4.heap.size := by have := (fbox_keep R3.out hb4).1.2.2; simpa using this
      clear hb4 q0 q1
      obtain ⟨⟨q0, q1, -⟩, -, -⟩ := A4.out
      obtain ⟨⟨q2, q3, -⟩, -, -⟩ := C4.out
      have t0 : T3 w (w4.alloc (.cells #[.int .i64 C, .int .i64 D] 36)).drew w3.heap.size w4.heap.size ((w.alloc (.cells #[.int .i64 fn, .int .i64 fd] 36)).alloc (.cells #[.int .i64 gn, .int .i64 gd] 36)).heap.size (.int .i64 A) (.int .i64 B) (.int .i64 C) (.int .i64 D) (.int .i64 0) (.int .i64 0) := T3.keep ⟨A4.out, C4.out, R4.out, B4.out⟩ (Below.refl _ _).drew
      go_wp2_with fail
      go_region_held3 (fun w' => w'.cell? ⟨w3.heap.size, 0, none⟩ = some (.int .i64 A) ∧ w'.cell? ⟨w3.heap.size, 1, none⟩ = some (.int .i64 B) ∧ w'.cell? ⟨w4.heap.size, 0, none⟩ = some (.int .i64 C) ∧ w'.cell? ⟨w4.heap.size, 1, none⟩ = some (.int .i64 D)) ((first | (simp [*]; done) | (refine ⟨?_, ?_, ?_, ?_⟩ <;> (rw [World.cell?_setCell_far _ _ _ _ (by simp; omega), World.cell?_setCell_far _ _ _ _ (by simp; omega)]; assumption))))
        (first
          | (go_at_call_of 73 (Value.int .i64 A); refine (HP1.out _).mono ?_; rintro e w8 ⟨rfl, hb8⟩; (first | have t8 := T3.keep t0 hb8 | have t8 := T3.keep t9 hb8); have tt := t8; obtain ⟨⟨⟨z0, z1, -⟩, -, -⟩, ⟨⟨z2, z3, -⟩, -, -⟩, -, -⟩ := tt)
          | (go_at_call_of 73 (Value.int .i64 B); refine (HP2.out _).mono ?_; rintro e w9 ⟨rfl, hb9⟩; (first | have t9 := T3.keep t0 hb9 | have t9 := T3.keep t8 hb9); have tt := t9; obtain ⟨⟨⟨z0, z1, -⟩, -, -⟩, ⟨⟨z2, z3, -⟩, -, -⟩, -, -⟩ := tt)
          | (go_at_call 76; refine (HFO.out _).mono ?_; rintro e w10 ⟨rfl, hb10⟩; (first | have t10 := T3.keep t8 hb10 | have t10 := T3.keep t9 hb10); have tt := t10; obtain ⟨⟨⟨z0, z1, -⟩, -, -⟩, ⟨⟨z2, z3, -⟩, -, -⟩, ⟨⟨z6, z7, -⟩, z4, z5⟩, -⟩ := tt; simp at z4 z5 z6 z7))
      have tb := t10.2.2.2
      go_wp2_with fail
      refine bodyPost_ret (v := .tuple #[.agg #[.int .i64 X, .int .i64 Y], .bool Z]) (by simp [results, Tryd.results24, go_sem, z6, z7]) rfl ⟨rfl, ?_⟩
      exact (tb.setCell (by simp; omega) _).setCell (by simp; omega) _
end Go.Proofs.YtnpigefbdadjfaaDoor
