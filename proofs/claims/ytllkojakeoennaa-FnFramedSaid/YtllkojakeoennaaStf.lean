/- Stuffers: which are valid, the law's copy, both ValidStuffer. -/
import Derived.Test.YtllkojakeoennaaPl
import Derived.Test.YtllkojakeoennaaBtw
import Derived.Test.YtllkojakeoennaaBk
namespace Go.Proofs.Ytllkojakeoennaa
open Go Go.RowKit
set_option linter.unusedVariables false

theorem bk_two {W : World} {k : Nat} {x y : Value} (h : Bk W k [x, y]) : W.cell? ⟨k, 0, none⟩ = some x ∧ W.cell? ⟨k, 1, none⟩ = some y := ⟨h.c 0 _ rfl, h.c 1 _ rfl⟩
theorem i64_bnd {x : Int} (h : (Lit.int .i64 x).wf = true) : -9223372036854775808 ≤ x ∧ x ≤ 9223372036854775807 := by
  simp [Lit.wf, IntKind.min, IntKind.max, IntKind.signed, IntKind.bits] at h
  omega
/-- The cells of a stuffer. -/
def sV (a b : Int) : List Value := [.int .i64 a, .int .i64 b]
/-- Whether a stuffer is valid. -/
def sOk (a b : Int) : Bool := decide ((1 ≤ a ∧ a ≤ 10) ∧ (0 ≤ b ∧ b ≤ 1))
theorem toStuffer_any (a b : Int) (w : World) :
    Calls Try.prog 15 #[.agg #[.int .i64 a, .int .i64 b]] w fun e w' => e = .returned (.agg #[.int .i64 a, .int .i64 b]) ∧ Below w.heap.size w w' := by
  go_enter Try.func15, Try.ntmps15
  go_wp2
  simp [bodyPost, results, Try.results15, go_sem]
  exact ((((Below.refl _ _).alloc (Nat.le_refl _) _).alloc (by simp) _).alloc (by simp; omega) _)
theorem l04Is_any (w : World) (k : Nat) (a b : Int) (h : Bk w k (sV a b)) :
    Calls Try.prog 47 #[.pointer (some ⟨k, 0, none⟩)] w fun e w' => e = .returned (.bool (sOk a b)) ∧ w = w' := by
  obtain ⟨q0, q1⟩ := bk_two h
  by_cases h1 : 1 ≤ a ∧ a ≤ 10
  · obtain ⟨a1, a2⟩ := h1
    by_cases h2 : 0 ≤ b ∧ b ≤ 1
    · have HE : Hid (sOk a b = true) := decide_eq_true ⟨⟨a1, a2⟩, h2⟩
      obtain ⟨b1, b2⟩ := h2
      go_enter Try.func47, Try.ntmps47
      go_wp2_with fail
      refine (l00In_yes _ _ _ _ a1 a2).mono ?_; rintro e w' ⟨rfl, rfl⟩
      go_wp2_with fail
      refine (l00In_yes _ _ _ _ b1 b2).mono ?_; rintro e w' ⟨rfl, rfl⟩
      go_wp2_with fail
      go_ret
      exact ⟨ret_bool HE.out.symm, rfl⟩
    · have HE : Hid (sOk a b = false) := decide_eq_false (fun e => h2 e.2)
      have H2 := Lib.hid h2
      clear h2
      go_enter Try.func47, Try.ntmps47
      go_wp2_with fail
      refine (l00In_yes _ _ _ _ a1 a2).mono ?_; rintro e w' ⟨rfl, rfl⟩
      go_wp2_with fail
      refine (l00In_no _ _ _ _ H2.out).mono ?_; rintro e w' ⟨rfl, rfl⟩
      go_wp2_with fail
      go_ret
      exact ⟨ret_bool HE.out.symm, rfl⟩
  · have HE : Hid (sOk a b = false) := decide_eq_false (fun e => h1 e.1)
    have H1 := Lib.hid h1
    clear h1
    go_enter Try.func47, Try.ntmps47
    go_wp2_with fail
    refine (l00In_no _ _ _ _ H1.out).mono ?_; rintro e w' ⟨rfl, rfl⟩
    go_wp2_with fail
    go_ret
    exact ⟨ret_bool HE.out.symm, rfl⟩
theorem validStuffer_impl (w : World) (a b : Int) :
    Calls Try.prog 16 #[.agg #[.int .i64 a, .int .i64 b]] w fun e w' => e = .returned (.bool (sOk a b)) ∧ Below w.heap.size w w' := by
  have HB : Hid (Below w.heap.size w (w.alloc (.cells #[.int .i64 a, .int .i64 b] 25))) := (Below.refl _ _).alloc (Nat.le_refl _) _
  by_cases h1 : 1 ≤ a ∧ a ≤ 10
  · obtain ⟨a1, a2⟩ := h1
    by_cases h2 : 0 ≤ b ∧ b ≤ 1
    · have HE : Hid (sOk a b = true) := decide_eq_true ⟨⟨a1, a2⟩, h2⟩
      obtain ⟨b1, b2⟩ := h2
      go_enter Try.func16, Try.ntmps16
      go_wp2_with fail
      refine (btw_yes _ _ _ _ a1 a2).mono ?_; rintro e w' ⟨rfl, rfl⟩
      go_wp2_with fail
      refine (btw_yes _ _ _ _ b1 b2).mono ?_; rintro e w' ⟨rfl, rfl⟩
      go_wp2_with fail
      go_ret
      exact ⟨ret_bool HE.out.symm, HB.out⟩
    · have HE : Hid (sOk a b = false) := decide_eq_false (fun e => h2 e.2)
      have H2 := Lib.hid h2
      clear h2
      go_enter Try.func16, Try.ntmps16
      go_wp2_with fail
      refine (btw_yes _ _ _ _ a1 a2).mono ?_; rintro e w' ⟨rfl, rfl⟩
      go_wp2_with fail
      refine (btw_no _ _ _ _ H2.out).mono ?_; rintro e w' ⟨rfl, rfl⟩
      go_wp2_with fail
      go_ret
      exact ⟨ret_bool HE.out.symm, HB.out⟩
  · have HE : Hid (sOk a b = false) := decide_eq_false (fun e => h1 e.1)
    have H1 := Lib.hid h1
    clear h1
    go_enter Try.func16, Try.ntmps16
    go_wp2_with fail
    refine (btw_no _ _ _ _ H1.out).mono ?_; rintro e w' ⟨rfl, rfl⟩
    go_wp2_with fail
    go_ret
    exact ⟨ret_bool HE.out.symm, HB.out⟩
theorem validStuffer_spec (w : World) (a b : Int) :
    Calls Try.prog 14 #[.agg #[.int .i64 a, .int .i64 b]] w fun e w' => e = .returned (.bool (sOk a b)) ∧ Below w.heap.size w w' := by
  have HB : Hid (Below w.heap.size w (w.alloc (.cells #[.int .i64 a, .int .i64 b] 25))) := (Below.refl _ _).alloc (Nat.le_refl _) _
  have HO := Lib.hid (Bk.new w (sV a b) 25 _ rfl)
  go_enter Try.func14, Try.ntmps14
  go_wp2_with fail
  refine (l04Is_any _ _ _ _ HO.out).mono ?_; rintro e w' ⟨rfl, rfl⟩
  go_wp2_with fail
  go_ret
  exact ⟨rfl, HB.out⟩
end Go.Proofs.Ytllkojakeoennaa
