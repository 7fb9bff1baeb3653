/- Stuffers: which are valid, the law's copy, both ValidStuffer. -/
import Derived.Test.YtnpigefbdadjfaaDoorPl
import Derived.Test.YtnpigefbdadjfaaDoorBtw
import Derived.Test.YtnpigefbdadjfaaDoorBk
namespace Go.Proofs.YtnpigefbdadjfaaDoor
open Go Go.RowKit
set_option linter.unusedVariables false

theorem bk_two {W : World} {k : Nat} {x y : Value} (h : Bk W k [x, y]) : W.cell? ⟨k, 0, none⟩ = some x ∧ W.cell? ⟨k, 1, none⟩ = some y := ⟨h.c 0 _ rfl, h.c 1 _ rfl⟩
theorem i64_bnd {x : Int} (h : (Lit.int .i64 x).wf = true) : -9223372036854775808 ≤ x ∧ x ≤ 9223372036854775807 := by
  simp [Lit.wf, IntKind.min, IntKind.max, IntKind.signed, IntKind.bits] at h
  omega
/-- The cells of a stuffer. -/
def sV (a b : Int) : List Value := [.int .i64 a, .int .i64 b]
/-- Whether a stuffer is valid. -/
def sOk (a b : Int) : Bool := decide ((1 ≤ a ∧ a ≤ 10) ∧ (0 ≤ b ∧ b ≤ 1))
theorem toStuffer_any (a b : Int) (w : World) :
    Calls Tryd.prog 56 #[.agg #[.int .i64 a, .int .i64 b]] w fun e w' => e = .returned (.agg #[.int .i64 a, .int .i64 b]) ∧ Below w.heap.size w w' := by
  go_enter Tryd.func56, Tryd.ntmps56
  go_wp2
  simp [bodyPost, results, Tryd.results56, go_sem]
  exact ((((Below.refl _ _).alloc (Nat.le_refl _) _).alloc (by simp) _).alloc (by simp; omega) _)
theorem l04Is_any (w : World) (k : Nat) (a b : Int) (h : Bk w k (sV a b)) :
    Calls Tryd.prog 110 #[.pointer (some ⟨k, 0, none⟩)] w fun e w' => e = .returned (.bool (sOk a b)) ∧ w = w' := by
  obtain ⟨q0, q1⟩ := bk_two h
  by_cases h1 : 1 ≤ a ∧ a ≤ 10
  · obtain ⟨a1, a2⟩ := h1
    by_cases h2 : 0 ≤ b ∧ b ≤ 1
    · have HE : Hid (sOk a b = true) := decide_eq_true ⟨⟨a1, a2⟩, h2⟩
      obtain ⟨b1, b2⟩ := h2
      go_enter Tryd.func110, Tryd.ntmps110
      go_wp2_with fail
      refine (l00In_yes _ _ _ _ a1 a2).mono ?_; rintro e w' ⟨rfl, rfl⟩
      go_wp2_with fail
      refine (l00In_yes _ _ _ _ b1 b2).mono ?_; rintro e w' ⟨rfl, rfl⟩
      go_wp2_with fail
      go_ret
      exact ⟨ret_bool HE.out.symm, rfl⟩
    · have HE : Hid (sOk a b = false) := decide_eq_false (fun e => h2 e.2)
      have H2 := Lib.hid h2
      clear h2
      go_enter Tryd.func110, Tryd.ntmps110
      go_wp2_with fail
      refine (l00In_yes _ _ _ _ a1 a2).mono ?_; rintro e w' ⟨rfl, rfl⟩
      go_wp2_with fail
      refine (l00In_no _ _ _ _ H2.out).mono ?_; rintro e w' ⟨rfl, rfl⟩
      go_wp2_with fail
      go_ret
      exact ⟨ret_bool HE.out.symm, rfl⟩
  · have HE : Hid (sOk a b = false) := decide_eq_false (fun e => h1 e.1)
    have H1 := Lib.hid h1
    clear h1
    go_enter Tryd.func110, Tryd.ntmps110
    go_wp2_with fail
    refine (l00In_no _ _ _ _ H1.out).mono ?_; rintro e w' ⟨rfl, rfl⟩
    go_wp2_with fail
    go_ret
    exact ⟨ret_bool HE.out.symm, rfl⟩
theorem validStuffer_impl (w : World) (a b : Int) :
    Calls Tryd.prog 19 #[.agg #[.int .i64 a, .int .i64 b]] w fun e w' => e = .returned (.bool (sOk a b)) ∧ Below w.heap.size w w' := by
  have HB : Hid (Below w.heap.size w (w.alloc (.cells #[.int .i64 a, .int .i64 b] 25))) := (Below.refl _ _).alloc (Nat.le_refl _) _
  by_cases h1 : 1 ≤ a ∧ a ≤ 10
  · obtain ⟨a1, a2⟩ := h1
    by_cases h2 : 0 ≤ b ∧ b ≤ 1
    · have HE : Hid (sOk a b = true) := decide_eq_true ⟨⟨a1, a2⟩, h2⟩
      obtain ⟨b1, b2⟩ := h2
      go_enter Tryd.func19, Tryd.ntmps19
      go_wp2_with fail
      refine (btw_yes _ _ _ _ a1 a2).mono ?_; rintro e w' ⟨rfl, rfl⟩
      go_wp2_with fail
      refine (btw_yes _ _ _ _ b1 b2).mono ?_; rintro e w' ⟨rfl, rfl⟩
      go_wp2_with fail
      go_ret
      exact ⟨ret_bool HE.out.symm, HB.out⟩
    · have HE : Hid (sOk a b = false) := decide_eq_false (fun e => h2 e.2)
      have H2 := Lib.hid h2
      clear h2
      go_enter Tryd.func19, Tryd.ntmps19
      go_wp2_with fail
      refine (btw_yes _ _ _ _ a1 a2).mono ?_; rintro e w' ⟨rfl, rfl⟩
      go_wp2_with fail
      refine (btw_no _ _ _ _ H2.out).mono ?_; rintro e w' ⟨rfl, rfl⟩
      go_wp2_with fail
      go_ret
      exact ⟨ret_bool HE.out.symm, HB.out⟩
  · have HE : Hid (sOk a b = false) := decide_eq_false (fun e => h1 e.1)
    have H1 := Lib.hid h1
    clear h1
    go_enter Tryd.func19, Tryd.ntmps19
    go_wp2_with fail
    refine (btw_no _ _ _ _ H1.out).mono ?_; rintro e w' ⟨rfl, rfl⟩
    go_wp2_with fail
    go_ret
    exact ⟨ret_bool HE.out.symm, HB.out⟩
end Go.Proofs.YtnpigefbdadjfaaDoor
