/- The model's product of two numbers that are not negative, in two words. -/
import Derived.Test.YtnpigefbdadjfaaDoorWide
namespace Go.Proofs.YtnpigefbdadjfaaDoor
open Go Go.RowKit
set_option linter.unusedVariables false

theorem mul_bd (x y m n : Int) (x0 : 0 ≤ x) (y0 : 0 ≤ y) (hx : x ≤ m) (hy : y ≤ n) : 0 ≤ x * y ∧ x * y ≤ m * n :=
  ⟨Int.mul_nonneg x0 y0, Int.mul_le_mul hx hy y0 (by omega)⟩
theorem times_parts (a b : Int) (a1 : 0 ≤ a) (a2 : a ≤ 1000000000000000000) (b1 : 0 ≤ b) (b2 : b ≤ 1000000000000000000) :
    (0 ≤ a % 4294967296 * (b % 4294967296) ∧ a % 4294967296 * (b % 4294967296) ≤ 18446744065119617025) ∧
    (0 ≤ a / 4294967296 * (b % 4294967296) ∧ a / 4294967296 * (b % 4294967296) ≤ 1000000000000000000) ∧
    (0 ≤ a % 4294967296 * (b / 4294967296) ∧ a % 4294967296 * (b / 4294967296) ≤ 1000000000000000000) ∧
    (0 ≤ a / 4294967296 * (b / 4294967296) ∧ a / 4294967296 * (b / 4294967296) ≤ 1000000000000000000) ∧
    a * b = a / 4294967296 * (b / 4294967296) * 18446744073709551616 + (a / 4294967296 * (b % 4294967296) + a % 4294967296 * (b / 4294967296)) * 4294967296 + a % 4294967296 * (b % 4294967296) := by
  have hx0 : 0 ≤ a % 4294967296 ∧ a % 4294967296 ≤ 4294967295 := by omega
  have hy0 : 0 ≤ b % 4294967296 ∧ b % 4294967296 ≤ 4294967295 := by omega
  have hx1 : 0 ≤ a / 4294967296 ∧ a / 4294967296 ≤ 232830643 := by omega
  have hy1 : 0 ≤ b / 4294967296 ∧ b / 4294967296 ≤ 232830643 := by omega
  have ea : a = 4294967296 * (a / 4294967296) + a % 4294967296 := by omega
  have eb : b = 4294967296 * (b / 4294967296) + b % 4294967296 := by omega
  refine ⟨?_, ?_, ?_, ?_, ?_⟩
  · have := mul_bd _ _ _ _ hx0.1 hy0.1 hx0.2 hy0.2; omega
  · have := mul_bd _ _ _ _ hx1.1 hy0.1 hx1.2 hy0.2; omega
  · have := mul_bd _ _ _ _ hx0.1 hy1.1 hx0.2 hy1.2; omega
  · have := mul_bd _ _ _ _ hx1.1 hy1.1 hx1.2 hy1.2; omega
  · generalize a / 4294967296 = p at *
    generalize a % 4294967296 = q at *
    generalize b / 4294967296 = r at *
    generalize b % 4294967296 = s at *
    subst ea eb
    grind

theorem or_join (X Y : Int) (h0 : 0 ≤ X) (h1 : X ≤ 18446744073709551615) (hm : X % 4294967296 = 0) (y0 : 0 ≤ Y) (y1 : Y ≤ 4294967295) : bits .or .u64 X Y = X + Y := by
  obtain ⟨x, rfl⟩ := Int.eq_ofNat_of_zero_le h0
  obtain ⟨y, rfl⟩ := Int.eq_ofNat_of_zero_le y0
  rw [bits_or_u64_nat x y (by omega) (by omega), nat_join 32 x y (by omega) (by omega)]
  omega
end Go.Proofs.YtnpigefbdadjfaaDoor
