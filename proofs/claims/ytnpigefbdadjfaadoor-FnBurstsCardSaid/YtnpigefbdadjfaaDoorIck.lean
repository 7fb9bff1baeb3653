/- Whether a number is a check: the model's and the program's. -/
import Derived.Test.YtnpigefbdadjfaaDoorBtw
import Derived.Test.YtnpigefbdadjfaaDoorPl
namespace Go.Proofs.YtnpigefbdadjfaaDoor
open Go Go.RowKit
set_option linter.unusedVariables false

def ckB (p : Int) : Bool := decide (2 ≤ p ∧ p ≤ 131071)
theorem isCheck_impl (p : Int) (w : World) : Calls Tryd.prog 103 #[.int .i64 p] w fun e w' => e = .returned (.bool (ckB p)) ∧ Below w.heap.size w w' := by
  by_cases h : 2 ≤ p ∧ p ≤ 131071
  · have HV : Hid (ckB p = true) := decide_eq_true h
    obtain ⟨h1, h2⟩ := h
    go_enter Tryd.func103, Tryd.ntmps103
    go_wp2_with fail
    refine (btw_yes _ _ _ _ h1 h2).mono ?_; rintro e w' ⟨rfl, rfl⟩
    go_wp2_with fail
    go_ret
    exact ⟨ret_bool HV.out.symm, Below.refl _ _⟩
  · have HV : Hid (ckB p = false) := decide_eq_false h
    have H := Lib.hid h
    clear h
    go_enter Tryd.func103, Tryd.ntmps103
    go_wp2_with fail
    refine (btw_no _ _ _ _ H.out).mono ?_; rintro e w' ⟨rfl, rfl⟩
    go_wp2_with fail
    go_ret
    exact ⟨ret_bool HV.out.symm, Below.refl _ _⟩
end Go.Proofs.YtnpigefbdadjfaaDoor
