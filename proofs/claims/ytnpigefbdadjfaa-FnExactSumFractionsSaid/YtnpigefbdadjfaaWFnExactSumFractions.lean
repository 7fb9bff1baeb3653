/- The walk of the law FnExactSumFractions. -/
import Derived.Test.YtnpigefbdadjfaaSfH
namespace Go.Proofs.Ytnpigefbdadjfaa
open Go Go.RowKit
set_option linter.unusedVariables false

set_option maxRecDepth 100000 in
set_option maxHeartbeats 2000000 in
theorem law_FnExactSumFractions (v : Value) (l : List (Int × Int)) (kb : ∀ x ∈ l, -9223372036854775808 ≤ x.1 ∧ x.1 ≤ 9223372036854775807) (w : World) (r : RdF w v l) (hm : l.length ≤ maxLen) :
    Calls Try.prog 6 #[v] w fun e w' => e = .returned (.bool true) ∧ Below w.heap.size w w' := by
  have R0 := Lib.hid r
  obtain ⟨A, n, c, rfl, hn, -⟩ := r
  have HN := Lib.hid hn
  have HSZ := Lib.hid (fun W => szFrac_any W A n c (by omega))
  by_cases hz : 1048576 < n
  · rw [if_pos hz] at HSZ
    clear hn hm
    go_enter Try.func6, Try.ntmps6
    go_wp2_with fail
    refine (HSZ.out _).mono ?_; rintro e w' ⟨rfl, rfl⟩
    go_wp2_with fail
    go_ret
    exact ⟨rfl, Below.refl _ _⟩
  · rw [if_neg hz] at HSZ
    have hge : ¬ (1048576 : Int) - (n : Int) < 0 := by omega
    have hl : l.length ≤ 1048576 := by omega
    have HT : Hid (∀ W : World, RdF W (.slice A n c) l → Calls Try.prog 34 #[.slice A n c] W fun e w' => ∃ g, e = .returned (.slice (some ⟨g, 0, none⟩) l.length l.length) ∧ RdF w' (.slice (some ⟨g, 0, none⟩) l.length l.length) l ∧ Below W.heap.size W w') := by
      show ∀ W : World, _
      intro W h
      exact (toFracs_any W (.slice A n c) l h hl).mono fun e w' ⟨he, h1, h2⟩ => ⟨W.heap.size, he, h1, h2⟩
    have HS := Lib.hid (fun W u h => sum_spec W u l h (by omega))
    have HI := Lib.hid (fun W u h => sum_impl W u l h (by omega) kb)
    have HE := Lib.hid (fun W u u' h h' => eqFracs_yes W u u' l h h' hl)
    clear hn hm hl kb hz
    generalize suN l = X at *
    generalize suD l = Y at *
    generalize suO l = Z at *
    generalize hll : l.length = m at *
    go_enter Try.func6, Try.ntmps6
    go_wp2_with fail
    refine (HSZ.out _).mono ?_; rintro e w' ⟨rfl, rfl⟩
    go_wp2_with fail
    refine (HT.out _ R0.out).mono ?_; rintro e w1 ⟨g1, rfl, r1, b1⟩
    go_wp2_with fail
    refine (HS.out _ _ r1).mono ?_; rintro e w2 ⟨rfl, b2⟩
    have F2 := Lib.hid (fbox_new w2 (.int .i64 X) (.int .i64 Y) 56)
    have B2 := Lib.hid (balloc (bnext b1 b2) (.cells #[.int .i64 X, .int .i64 Y] 56))
    clear r1 b1 b2
    go_wp2_with fail
    refine (HT.out _ (R0.out.keep B2.out)).mono ?_; rintro e w3 ⟨g3, rfl, r3, b3⟩
    have F3 := Lib.hid (fbox_keep F2.out b3)
    have B3 := Lib.hid (bnext B2.out b3)
    have R3 := Lib.hid r3
    clear b3 r3
    go_wp2_with fail
    refine (HI.out _ _ R3.out).mono ?_; rintro e w4 ⟨rfl, b4⟩
    have F4 := Lib.hid (fbox_alloc (fbox_keep F3.out b4) (.cells #[.int .i64 X, .int .i64 Y] 56))
    have G4 := Lib.hid (fbox_new w4 (.int .i64 X) (.int .i64 Y) 56)
    have B4 := Lib.hid (balloc (bnext B3.out b4) (.cells #[.int .i64 X, .int .i64 Y] 56))
    have R4 := Lib.hid ((R3.out.keep b4).keep ((Below.refl _ _).alloc (Nat.le_refl _) (.cells #[.int .i64 X, .int .i64 Y] 56)))
    clear b4
    obtain ⟨⟨q0, q1, -⟩, -, -⟩ := F4.out
    obtain ⟨⟨q2, q3, -⟩, -, -⟩ := G4.out
    have hzz : (Z != Z) = false := by cases Z <;> rfl
    go_wp2_with fail
    refine (eqFraction_yes _ _ _).mono ?_; rintro e w5 ⟨rfl, b5⟩
    have B5 := Lib.hid (bnext B4.out b5)
    have R5 := Lib.hid (R4.out.keep b5)
    clear b5 q0 q1 q2 q3
    go_wp2_with fail
    refine (HT.out _ (R0.out.keep B5.out)).mono ?_; rintro e w6 ⟨g6, rfl, r6, b6⟩
    have B6 := Lib.hid (bnext B5.out b6)
    have R6 := Lib.hid (R5.out.keep b6)
    have RX := Lib.hid r6
    clear b6 r6
    go_wp2_with fail
    refine (HE.out _ _ _ R6.out RX.out).mono ?_; rintro e w7 ⟨rfl, b7⟩
    have B7 := Lib.hid (bnext B6.out b7)
    clear b7
    go_wp2_with fail
    go_ret
    exact ⟨rfl, B7.out⟩
end Go.Proofs.Ytnpigefbdadjfaa
