/- The model's SumFractions. -/
import Derived.Test.YtnpigefbdadjfaaSfD
namespace Go.Proofs.Ytnpigefbdadjfaa
open Go Go.RowKit
set_option linter.unusedVariables false

set_option maxRecDepth 100000 in
set_option maxHeartbeats 1000000 in
theorem sum_spec (w : World) (v : Value) (l : List (Int × Int)) (h : RdF w v l) (hl : l.length ≤ 100000000) :
    Calls Try.prog 33 #[v] w fun e w' => e = .returned (.tuple #[.agg #[.int .i64 (suN l), .int .i64 (suD l)], .bool (suO l)]) ∧ Below w.heap.size w w' := by
  have h' := h
  obtain ⟨A, n, c, rfl, hn, r⟩ := h
  have H := Lib.hid h'
  have R0 := Lib.hid (fbox_new w (.int .i64 0) (.int .i64 0) 56)
  have B0 := Lib.hid (balloc (Below.refl w.heap.size w) (.cells #[.int .i64 0, .int .i64 0] 56))
  have H1 := Lib.hid (H.out.keep B0.out)
  by_cases h64 : n ≤ 64
  · have e1 : suN l = sfN l := if_pos (by omega)
    have e2 : suD l = sfD l := if_pos (by omega)
    have e3 : suO l = sfO l := if_pos (by omega)
    rw [e1, e2, e3]
    have hgt : ¬ (64 : Int) < (n : Int) := by omega
    have HA := Lib.hid (fun W h => l01FAll_any W (.slice A n c) l h (by omega))
    have HS := Lib.hid (fun W h ha => l01FSum_any W (.slice A n c) l h (by omega) ha)
    clear r hn hl h' e1 e2 e3
    cases hall : faB l
    · obtain ⟨e1, e2, e3⟩ := sf_none (sfS_bad l (0, 1) hall)
      rw [e1, e2, e3]
      rw [hall] at HA
      clear e1 e2 e3
      go_enter Try.func33, Try.ntmps33
      go_wp2_with fail
      refine (HA.out _ H1.out).mono ?_; rintro e w1 ⟨rfl, hb1⟩
      have R1 := Lib.hid (fbox_keep R0.out hb1)
      have B1 := Lib.hid (bnext B0.out hb1)
      clear hb1
      obtain ⟨⟨q0, q1, -⟩, q2, q3⟩ := R1.out
      have ff := fbox_setF R1.out (.int .i64 0) (.int .i64 0)
      have p0 := ff.1.1
      have p1 := ff.1.2.1
      clear ff
      go_wp2_with fail
      refine bodyPost_ret (v := .tuple #[.agg #[.int .i64 0, .int .i64 0], .bool false]) (by simp [results, Try.results33, go_sem, p0, p1]) rfl ⟨rfl, ?_⟩
      exact (B1.out.setCell (Nat.le_refl _) _).setCell (Nat.le_refl _) _
    · have HS1 := Lib.hid (fun W h => HS.out W h hall)
      rw [hall] at HA
      clear HS hall
      generalize sfN l = X at *
      generalize sfD l = Y at *
      generalize sfO l = Z at *
      go_enter Try.func33, Try.ntmps33
      go_wp2_with fail
      refine (HA.out _ H1.out).mono ?_; rintro e w1 ⟨rfl, hb1⟩
      have R1 := Lib.hid (fbox_keep R0.out hb1)
      have B1 := Lib.hid (bnext B0.out hb1)
      have H2 := Lib.hid (H.out.keep B1.out)
      clear hb1
      go_wp2_with fail
      refine (HS1.out _ H2.out).mono ?_; rintro e w2 ⟨rfl, hb2⟩
      have R2 := Lib.hid (fbox_keep R1.out hb2)
      have B2 := Lib.hid (bnext B1.out hb2)
      clear hb2
      obtain ⟨⟨q0, q1, -⟩, q2, q3⟩ := R2.out
      have ff := fbox_setF R2.out (.int .i64 X) (.int .i64 Y)
      have p0 := ff.1.1
      have p1 := ff.1.2.1
      clear ff
      go_wp2_with fail
      refine bodyPost_ret (v := .tuple #[.agg #[.int .i64 X, .int .i64 Y], .bool Z]) (by simp [results, Try.results33, go_sem, p0, p1]) rfl ⟨rfl, ?_⟩
      exact (B2.out.setCell (Nat.le_refl _) _).setCell (Nat.le_refl _) _
  · have e1 : suN l = 0 := if_neg (by omega)
    have e2 : suD l = 0 := if_neg (by omega)
    have e3 : suO l = false := if_neg (by omega)
    rw [e1, e2, e3]
    have hgt : (64 : Int) < (n : Int) := by omega
    clear r hn hl h' e1 e2 e3 H H1 R0 B0
    go_enter Try.func33, Try.ntmps33
    go_wp2_with fail
    simp [bodyPost, results, Try.results33, go_sem]
    exact (Below.refl _ _).alloc (Nat.le_refl _) _
end Go.Proofs.Ytnpigefbdadjfaa
