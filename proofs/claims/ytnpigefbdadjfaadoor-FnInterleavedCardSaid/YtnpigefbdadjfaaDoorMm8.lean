/- The model's greater and lesser of two numbers. -/
import Derived.Test.YtnpigefbdadjfaaDoorProg
import Derived.Test.YtnpigefbdadjfaaDoorPl
namespace Go.Proofs.YtnpigefbdadjfaaDoor
open Go Go.RowKit
set_option linter.unusedVariables false
theorem max8 (a b : Int) (w : World) :
    Calls Tryd.prog 112 #[.int .i64 a, .int .i64 b] w fun e w' => e = .returned (.int .i64 (max a b)) ∧ w = w' := by
  by_cases h : a > b
  · have HE : Hid (max a b = a) := by show _ = _; omega
    rw [HE.out]
    go_enter Tryd.func112, Tryd.ntmps112
    go_wp2
    go_ret
    exact ⟨rfl, rfl⟩
  · have HE : Hid (max a b = b) := by show _ = _; omega
    rw [HE.out]
    go_enter Tryd.func112, Tryd.ntmps112
    go_wp2
    go_ret
    exact ⟨rfl, rfl⟩
end Go.Proofs.YtnpigefbdadjfaaDoor
