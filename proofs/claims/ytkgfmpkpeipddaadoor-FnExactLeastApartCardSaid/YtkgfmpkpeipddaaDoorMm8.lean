/- The model's greater and lesser of two numbers. -/
import Derived.Test.YtkgfmpkpeipddaaDoorProg
import Derived.Test.YtkgfmpkpeipddaaDoorPl
namespace Go.Proofs.YtkgfmpkpeipddaaDoor
open Go Go.RowKit
set_option linter.unusedVariables false
theorem max8 (a b : Int) (w : World) :
    Calls Tryd.prog 44 #[.int .i64 a, .int .i64 b] w fun e w' => e = .returned (.int .i64 (max a b)) ∧ w = w' := by
  by_cases h : a > b
  · have HE : Hid (max a b = a) := by show _ = _; omega
    rw [HE.out]
    go_enter Tryd.func44, Tryd.ntmps44
    go_wp2
    go_ret
    exact ⟨rfl, rfl⟩
  · have HE : Hid (max a b = b) := by show _ = _; omega
    rw [HE.out]
    go_enter Tryd.func44, Tryd.ntmps44
    go_wp2
    go_ret
    exact ⟨rfl, rfl⟩
theorem min8 (a b : Int) (w : World) :
    Calls Tryd.prog 45 #[.int .i64 a, .int .i64 b] w fun e w' => e = .returned (.int .i64 (min a b)) ∧ w = w' := by
  by_cases h : a < b
  · have HE : Hid (min a b = a) := by show _ = _; omega
    rw [HE.out]
    go_enter Tryd.func45, Tryd.ntmps45
    go_wp2
    go_ret
    exact ⟨rfl, rfl⟩
  · have HE : Hid (min a b = b) := by show _ = _; omega
    rw [HE.out]
    go_enter Tryd.func45, Tryd.ntmps45
    go_wp2
    go_ret
    exact ⟨rfl, rfl⟩
end Go.Proofs.YtkgfmpkpeipddaaDoor
