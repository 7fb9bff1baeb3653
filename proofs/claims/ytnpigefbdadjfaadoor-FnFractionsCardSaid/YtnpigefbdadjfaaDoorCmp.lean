/- Both comparisons of fractions. -/
import Derived.Test.YtnpigefbdadjfaaDoorMulC
import Derived.Test.YtnpigefbdadjfaaDoorFLaw
namespace Go.Proofs.YtnpigefbdadjfaaDoor
open Go Go.RowKit
set_option linter.unusedVariables false

def cpOk (fn fd gn gd : Int) : Prop := fIs fn fd = true ∧ fIs gn gd = true
instance (fn fd gn gd : Int) : Decidable (cpOk fn fd gn gd) := inferInstanceAs (Decidable (_ ∧ _))
def cpV (fn fd gn gd : Int) : Int := if cpOk fn fd gn gd then sgn (fn * gd + -gn * fd) else 0
def cpB (fn fd gn gd : Int) : Bool := decide (cpOk fn fd gn gd)

theorem less_words (X Y : Int) : (hi64 X < hi64 Y ∨ (hi64 X = hi64 Y ∧ lo64 X < lo64 Y)) → 0 ≤ X → X ≤ 100000000000000000000000000000000000000 → 0 ≤ Y → Y ≤ 100000000000000000000000000000000000000 → X < Y := by
  unfold hi64 lo64; omega
theorem less_words_not (X Y : Int) : ¬ (hi64 X < hi64 Y ∨ (hi64 X = hi64 Y ∧ lo64 X < lo64 Y)) → 0 ≤ X → X ≤ 100000000000000000000000000000000000000 → 0 ≤ Y → Y ≤ 100000000000000000000000000000000000000 → ¬ X < Y := by
  unfold hi64 lo64; omega

theorem cmp_vals (fn fd gn gd : Int) (f3 : 1 ≤ fd) (g3 : 1 ≤ gd) :
    (fn < 0 → gn < 0 → sgn (fn * gd + -gn * fd) = if (fn.natAbs : Int) * gd < (gn.natAbs : Int) * fd then 1 else if (gn.natAbs : Int) * fd < (fn.natAbs : Int) * gd then -1 else 0) ∧
    (¬ fn < 0 → ¬ gn < 0 → sgn (fn * gd + -gn * fd) = if (fn.natAbs : Int) * gd < (gn.natAbs : Int) * fd then -1 else if (gn.natAbs : Int) * fd < (fn.natAbs : Int) * gd then 1 else 0) ∧
    (fn < 0 → ¬ gn < 0 → sgn (fn * gd + -gn * fd) = -1) ∧ (¬ fn < 0 → gn < 0 → sgn (fn * gd + -gn * fd) = 1) := by
  refine ⟨fun a b => ?_, fun a b => ?_, fun a b => ?_, fun a b => ?_⟩
  · rw [show (fn.natAbs : Int) = -fn from by omega, show (gn.natAbs : Int) = -gn from by omega, Int.neg_mul fn gd]
    generalize fn * gd = p
    generalize -gn * fd = q
    unfold sgn
    (repeat' split) <;> omega
  · rw [show (fn.natAbs : Int) = fn from by omega, show (gn.natAbs : Int) = gn from by omega, Int.neg_mul gn fd]
    generalize fn * gd = p
    generalize gn * fd = q
    unfold sgn
    (repeat' split) <;> omega
  · have h1 : fn * gd < 0 := Int.mul_neg_of_neg_of_pos a (by omega)
    have h2 : 0 ≤ gn * fd := Int.mul_nonneg (by omega) (by omega)
    rw [Int.neg_mul]
    unfold sgn
    (repeat' split) <;> omega
  · have h1 : 0 ≤ fn * gd := Int.mul_nonneg (by omega) (by omega)
    have h2 : gn * fd < 0 := Int.mul_neg_of_neg_of_pos b (by omega)
    rw [Int.neg_mul]
    unfold sgn
    (repeat' split) <;> omega

end Go.Proofs.YtnpigefbdadjfaaDoor
