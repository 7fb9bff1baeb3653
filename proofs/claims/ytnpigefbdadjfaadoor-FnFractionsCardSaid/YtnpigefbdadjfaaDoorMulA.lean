/- Contracts of l01Small and fractionOf. -/
import Derived.Test.YtnpigefbdadjfaaDoorWide2
import Derived.Test.YtnpigefbdadjfaaDoorTimes
namespace Go.Proofs.YtnpigefbdadjfaaDoor
open Go Go.RowKit
set_option linter.unusedVariables false

def smV (P : Int) : Int := if P ≤ 1000000000000000000 then P else 0
def smB (P : Int) : Bool := decide (P ≤ 1000000000000000000)

/-- Whether a number can be a part. -/
def ptB (Z : Int) : Bool := decide (-1000000000000000000 ≤ Z ∧ Z ≤ 1000000000000000000)
def ptV (Z : Int) : Int := if ptB Z = true then Z else 0
theorem part_any (Z : Int) (w : World) (hZ : Fits Z) :
    Calls Tryd.prog 127 #[.agg #[.int .u64 (hi64 Z), .int .u64 (lo64 Z)]] w fun e w' => e = .returned (.tuple #[.int .i64 (ptV Z), .bool (ptB Z)]) ∧ Below w.heap.size w w' := by
  by_cases h : -1000000000000000000 ≤ Z ∧ Z ≤ 1000000000000000000
  · have HB : ptB Z = true := decide_eq_true h
    have HV : ptV Z = Z := if_pos HB
    rw [HV, HB]
    exact part_yes Z w h.1 h.2
  · have HB : ptB Z = false := decide_eq_false h
    have HV : ptV Z = 0 := if_neg (by rw [HB]; decide)
    rw [HV, HB]
    exact part_no Z w hZ h

/-- What fractionOf answers. -/
def foN (X Y : Int) : Int := if ptB X = true ∧ ptB Y = true then X else 0
def foD (X Y : Int) : Int := if ptB X = true ∧ ptB Y = true then Y else 0

set_option maxRecDepth 100000 in
theorem fractionOf_any (X Y : Int) (w : World) (hX : Fits X) (hY : Fits Y) :
    Calls Tryd.prog 76 #[.agg #[.int .u64 (hi64 X), .int .u64 (lo64 X)], .agg #[.int .u64 (hi64 Y), .int .u64 (lo64 Y)]] w fun e w' => e = .returned (.tuple #[.agg #[.int .i64 (foN X Y), .int .i64 (foD X Y)], .bool (ptB X && ptB Y)]) ∧ Below w.heap.size w w' := by
  have HX := Lib.hid hX
  have HY := Lib.hid hY
  have F0 := Lib.hid (fbox_alloc (fbox_alloc (fbox_new w (.int .u64 (hi64 X)) (.int .u64 (lo64 X)) 101) (.cells #[.int .u64 (hi64 Y), .int .u64 (lo64 Y)] 101)) (.cells #[.int .i64 0, .int .i64 0] 36))
  have G0 := Lib.hid (fbox_alloc (fbox_new (w.alloc (.cells #[.int .u64 (hi64 X), .int .u64 (lo64 X)] 101)) (.int .u64 (hi64 Y)) (.int .u64 (lo64 Y)) 101) (.cells #[.int .i64 0, .int .i64 0] 36))
  have R0 := Lib.hid (fbox_new ((w.alloc (.cells #[.int .u64 (hi64 X), .int .u64 (lo64 X)] 101)).alloc (.cells #[.int .u64 (hi64 Y), .int .u64 (lo64 Y)] 101)) (.int .i64 0) (.int .i64 0) 36)
  have B0 := Lib.hid (balloc (balloc (balloc (Below.refl w.heap.size w) (.cells #[.int .u64 (hi64 X), .int .u64 (lo64 X)] 101)) (.cells #[.int .u64 (hi64 Y), .int .u64 (lo64 Y)] 101)) (.cells #[.int .i64 0, .int .i64 0] 36))
  clear hX hY
  cases hx : ptB X
  · have e1 : foN X Y = 0 := if_neg (by rw [hx]; simp)
    have e2 : foD X Y = 0 := if_neg (by rw [hx]; simp)
    have HPX := Lib.hid hx
    rw [e1, e2, Bool.false_and]
    clear hx e1 e2
    go_enter Tryd.func76, Tryd.ntmps76
    go_wp2_with fail
    refine (part_any _ _ HX.out).mono ?_; rintro e w1 ⟨rfl, hb1⟩
    rw [HPX.out]
    have G1 := Lib.hid (fbox_keep G0.out hb1)
    have R1 := Lib.hid (fbox_keep R0.out hb1)
    have B1 := Lib.hid (bnext B0.out hb1)
    clear hb1
    obtain ⟨⟨q0, q1, -⟩, -, -⟩ := G1.out
    simp at q0 q1
    go_wp2_with fail
    refine (part_any _ _ HY.out).mono ?_; rintro e w2 ⟨rfl, hb2⟩
    have R2 := Lib.hid (fbox_keep R1.out hb2)
    have B2 := Lib.hid (bnext B1.out hb2)
    clear hb2 q0 q1
    obtain ⟨⟨q0, q1, -⟩, q2, q3⟩ := R2.out
    simp at q0 q1 q2 q3
    go_wp2_with fail
    refine bodyPost_ret (v := .tuple #[.agg #[.int .i64 0, .int .i64 0], .bool false]) (by simp [results, Tryd.results76, go_sem, q0, q1]) rfl ⟨rfl, ?_⟩
    exact (B2.out.setCell (by simp; omega) _).setCell (by simp; omega) _
  · have HPX := Lib.hid hx
    have HVX : Hid (ptV X = X) := if_pos hx
    cases hy : ptB Y
    all_goals
      have HPY := Lib.hid hy
    · have e1 : foN X Y = 0 := if_neg (by rw [hy]; simp)
      have e2 : foD X Y = 0 := if_neg (by rw [hy]; simp)
      rw [e1, e2, Bool.and_false]
      clear hx hy e1 e2
      go_enter Tryd.func76, Tryd.ntmps76
      go_wp2_with fail
      refine (part_any _ _ HX.out).mono ?_; rintro e w1 ⟨rfl, hb1⟩
      rw [HPX.out]
      have G1 := Lib.hid (fbox_keep G0.out hb1)
      have R1 := Lib.hid (fbox_keep R0.out hb1)
      have B1 := Lib.hid (bnext B0.out hb1)
      clear hb1
      obtain ⟨⟨q0, q1, -⟩, -, -⟩ := G1.out
      simp at q0 q1
      go_wp2_with fail
      refine (part_any _ _ HY.out).mono ?_; rintro e w2 ⟨rfl, hb2⟩
      rw [HPY.out]
      have R2 := Lib.hid (fbox_keep R1.out hb2)
      have B2 := Lib.hid (bnext B1.out hb2)
      clear hb2 q0 q1
      obtain ⟨⟨q0, q1, -⟩, q2, q3⟩ := R2.out
      simp at q0 q1 q2 q3
      go_wp2_with fail
      refine bodyPost_ret (v := .tuple #[.agg #[.int .i64 0, .int .i64 0], .bool false]) (by simp [results, Tryd.results76, go_sem, q0, q1]) rfl ⟨rfl, ?_⟩
      exact (B2.out.setCell (by simp; omega) _).setCell (by simp; omega) _
    · have e1 : foN X Y = X := if_pos ⟨hx, hy⟩
      have e2 : foD X Y = Y := if_pos ⟨hx, hy⟩
      have HVY : Hid (ptV Y = Y) := if_pos hy
      rw [e1, e2, Bool.true_and]
      clear hx hy e1 e2
      go_enter Tryd.func76, Tryd.ntmps76
      go_wp2_with fail
      refine (part_any _ _ HX.out).mono ?_; rintro e w1 ⟨rfl, hb1⟩
      rw [HPX.out, HVX.out]
      have G1 := Lib.hid (fbox_keep G0.out hb1)
      have R1 := Lib.hid (fbox_keep R0.out hb1)
      have B1 := Lib.hid (bnext B0.out hb1)
      clear hb1
      obtain ⟨⟨q0, q1, -⟩, -, -⟩ := G1.out
      simp at q0 q1
      go_wp2_with fail
      refine (part_any _ _ HY.out).mono ?_; rintro e w2 ⟨rfl, hb2⟩
      rw [HPY.out, HVY.out]
      have R2 := Lib.hid (fbox_keep R1.out hb2)
      have B2 := Lib.hid (bnext B1.out hb2)
      clear hb2 q0 q1
      obtain ⟨⟨q0, q1, -⟩, q2, q3⟩ := R2.out
      simp at q0 q1 q2 q3
      go_wp2_with fail
      refine bodyPost_ret (v := .tuple #[.agg #[.int .i64 X, .int .i64 Y], .bool true]) (by simp [results, Tryd.results76, go_sem, q0, q1]) rfl ⟨rfl, ?_⟩
      exact (B2.out.setCell (by simp; omega) _).setCell (by simp; omega) _
end Go.Proofs.YtnpigefbdadjfaaDoor
