/- CountMissed: the model's and the program's. -/
import Derived.Test.YtnpigefbdadjfaaDoorCmy
import Derived.Test.YtnpigefbdadjfaaDoorCmx
import Derived.Test.YtnpigefbdadjfaaDoorDvo
import Derived.Test.YtnpigefbdadjfaaDoorCkn
import Derived.Test.YtnpigefbdadjfaaDoorBtw
namespace Go.Proofs.YtnpigefbdadjfaaDoor
open Go Go.RowKit
set_option linter.unusedVariables false

def cmOk8 (p L c : Int) : Bool := (ckB p && decide (1 ≤ L ∧ L ≤ 32)) && decide (1 ≤ c ∧ c ≤ 4)
def cmV8 (p L c : Int) : Int := if cmOk8 p L c then (cmN p.toNat (Nat.log2 p.toNat) L.toNat c.toNat : Nat) else 0
theorem cm8_no {p L c : Int} (h : cmOk8 p L c = false) : cmV8 p L c = 0 := by unfold cmV8; rw [h]; rfl
theorem cm8_yes {p L c : Int} (h : cmOk8 p L c = true) : cmV8 p L c = (cmN p.toNat (Nat.log2 p.toNat) L.toNat c.toNat : Nat) := by unfold cmV8; rw [h]; rfl
theorem l00In_b (x a b : Int) (w : World) :
    Calls Tryd.prog 145 #[.int .i64 x, .int .i64 a, .int .i64 b] w fun e w' => e = .returned (.bool (decide (a ≤ x ∧ x ≤ b))) ∧ w = w' := by
  by_cases h : a ≤ x ∧ x ≤ b
  · rw [decide_eq_true h]; exact l00In_yes x a b w h.1 h.2
  · rw [decide_eq_false h]; exact l00In_no x a b w h
theorem btw_b (x a b : Int) (w : World) :
    Calls Tryd.prog 68 #[.int .i64 x, .int .i64 a, .int .i64 b] w fun e w' => e = .returned (.bool (decide (a ≤ x ∧ x ≤ b))) ∧ w = w' := by
  by_cases h : a ≤ x ∧ x ≤ b
  · rw [decide_eq_true h]; exact btw_yes x a b w h.1 h.2
  · rw [decide_eq_false h]; exact btw_no x a b w h

end Go.Proofs.YtnpigefbdadjfaaDoor
