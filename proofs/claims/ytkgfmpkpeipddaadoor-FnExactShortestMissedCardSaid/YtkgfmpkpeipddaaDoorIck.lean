/- Whether a number is a check: the model's and the program's. -/
import Derived.Test.YtkgfmpkpeipddaaDoorBtw
import Derived.Test.YtkgfmpkpeipddaaDoorPl
namespace Go.Proofs.YtkgfmpkpeipddaaDoor
open Go Go.RowKit
set_option linter.unusedVariables false

def ckB (p : Int) : Bool := decide (2 ≤ p ∧ p ≤ 131071)
theorem l08Check_any (p : Int) (w : World) : Calls Tryd.prog 57 #[.int .i64 p] w fun e w' => e = .returned (.bool (ckB p)) ∧ w = w' := by
  by_cases h : 2 ≤ p ∧ p ≤ 131071
  · have HV : Hid (ckB p = true) := decide_eq_true h
    obtain ⟨h1, h2⟩ := h
    go_enter Tryd.func57, Tryd.ntmps57
    go_wp2_with fail
    refine (l00In_yes _ _ _ _ h1 h2).mono ?_; rintro e w' ⟨rfl, rfl⟩
    go_wp2_with fail
    go_ret
    exact ⟨ret_bool HV.out.symm, rfl⟩
  · have HV : Hid (ckB p = false) := decide_eq_false h
    have H := Lib.hid h
    clear h
    go_enter Tryd.func57, Tryd.ntmps57
    go_wp2_with fail
    refine (l00In_no _ _ _ _ H.out).mono ?_; rintro e w' ⟨rfl, rfl⟩
    go_wp2_with fail
    go_ret
    exact ⟨ret_bool HV.out.symm, rfl⟩
theorem isCheck_impl (p : Int) (w : World) : Calls Tryd.prog 59 #[.int .i64 p] w fun e w' => e = .returned (.bool (ckB p)) ∧ Below w.heap.size w w' := by
  by_cases h : 2 ≤ p ∧ p ≤ 131071
  · have HV : Hid (ckB p = true) := decide_eq_true h
    obtain ⟨h1, h2⟩ := h
    go_enter Tryd.func59, Tryd.ntmps59
    go_wp2_with fail
    refine (btw_yes _ _ _ _ h1 h2).mono ?_; rintro e w' ⟨rfl, rfl⟩
    go_wp2_with fail
    go_ret
    exact ⟨ret_bool HV.out.symm, Below.refl _ _⟩
  · have HV : Hid (ckB p = false) := decide_eq_false h
    have H := Lib.hid h
    clear h
    go_enter Tryd.func59, Tryd.ntmps59
    go_wp2_with fail
    refine (btw_no _ _ _ _ H.out).mono ?_; rintro e w' ⟨rfl, rfl⟩
    go_wp2_with fail
    go_ret
    exact ⟨ret_bool HV.out.symm, Below.refl _ _⟩
end Go.Proofs.YtkgfmpkpeipddaaDoor
