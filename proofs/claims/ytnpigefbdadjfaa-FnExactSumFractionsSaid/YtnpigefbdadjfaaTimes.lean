/- The model's product of two numbers that are not negative, in two words. -/
import Derived.Test.YtnpigefbdadjfaaWide
namespace Go.Proofs.Ytnpigefbdadjfaa
open Go Go.RowKit
set_option linter.unusedVariables false

theorem mul_bd (x y m n : Int) (x0 : 0 ≤ x) (y0 : 0 ≤ y) (hx : x ≤ m) (hy : y ≤ n) : 0 ≤ x * y ∧ x * y ≤ m * n :=
  ⟨Int.mul_nonneg x0 y0, Int.mul_le_mul hx hy y0 (by omega)⟩
theorem times_parts (a b : Int) (a1 : 0 ≤ a) (a2 : a ≤ 1000000000000000000) (b1 : 0 ≤ b) (b2 : b ≤ 1000000000000000000) :
    (0 ≤ a % 4294967296 * (b % 4294967296) ∧ a % 4294967296 * (b % 4294967296) ≤ 18446744065119617025) ∧
    (0 ≤ a / 4294967296 * (b % 4294967296) ∧ a / 4294967296 * (b % 4294967296) ≤ 1000000000000000000) ∧
    (0 ≤ a % 4294967296 * (b / 4294967296) ∧ a % 4294967296 * (b / 4294967296) ≤ 1000000000000000000) ∧
    (0 ≤ a / 4294967296 * (b / 4294967296) ∧ a / 4294967296 * (b / 4294967296) ≤ 1000000000000000000) ∧
    a * b = a / 4294967296 * (b / 4294967296) * 18446744073709551616 + (a / 4294967296 * (b % 4294967296) + a % 4294967296 * (b / 4294967296)) * 4294967296 + a % 4294967296 * (b % 4294967296) := by
  have hx0 : 0 ≤ a % 4294967296 ∧ a % 4294967296 ≤ 4294967295 := by omega
  have hy0 : 0 ≤ b % 4294967296 ∧ b % 4294967296 ≤ 4294967295 := by omega
  have hx1 : 0 ≤ a / 4294967296 ∧ a / 4294967296 ≤ 232830643 := by omega
  have hy1 : 0 ≤ b / 4294967296 ∧ b / 4294967296 ≤ 232830643 := by omega
  have ea : a = 4294967296 * (a / 4294967296) + a % 4294967296 := by omega
  have eb : b = 4294967296 * (b / 4294967296) + b % 4294967296 := by omega
  refine ⟨?_, ?_, ?_, ?_, ?_⟩
  · have := mul_bd _ _ _ _ hx0.1 hy0.1 hx0.2 hy0.2; omega
  · have := mul_bd _ _ _ _ hx1.1 hy0.1 hx1.2 hy0.2; omega
  · have := mul_bd _ _ _ _ hx0.1 hy1.1 hx0.2 hy1.2; omega
  · have := mul_bd _ _ _ _ hx1.1 hy1.1 hx1.2 hy1.2; omega
  · generalize a / 4294967296 = p at *
    generalize a % 4294967296 = q at *
    generalize b / 4294967296 = r at *
    generalize b % 4294967296 = s at *
    subst ea eb
    grind

theorem or_join (X Y : Int) (h0 : 0 ≤ X) (h1 : X ≤ 18446744073709551615) (hm : X % 4294967296 = 0) (y0 : 0 ≤ Y) (y1 : Y ≤ 4294967295) : bits .or .u64 X Y = X + Y := by
  obtain ⟨x, rfl⟩ := Int.eq_ofNat_of_zero_le h0
  obtain ⟨y, rfl⟩ := Int.eq_ofNat_of_zero_le y0
  rw [bits_or_u64_nat x y (by omega) (by omega), nat_join 32 x y (by omega) (by omega)]
  omega
set_option maxHeartbeats 1600000 in
set_option maxRecDepth 100000 in
theorem l01Times_any (a b : Int) (w : World) (a1 : 0 ≤ a) (a2 : a ≤ 1000000000000000000) (b1 : 0 ≤ b) (b2 : b ≤ 1000000000000000000) :
    Calls Try.prog 102 #[.int .i64 a, .int .i64 b] w fun e w' => e = .returned (.agg #[.int .u64 (hi64 (a * b)), .int .u64 (lo64 (a * b))]) ∧ Below w.heap.size w w' := by
  obtain ⟨⟨l1, l2⟩, ⟨o1, o2⟩, ⟨t1, t2⟩, ⟨h1, h2⟩, hab⟩ := times_parts a b a1 a2 b1 b2
  have wa : IntKind.u64.wrap a = a := by simp only [IntKind.wrap_u64]; omega
  have wb : IntKind.u64.wrap b = b := by simp only [IntKind.wrap_u64]; omega
  generalize hlo : a % 4294967296 * (b % 4294967296) = lo at *
  generalize hone : a / 4294967296 * (b % 4294967296) = one at *
  generalize htwo : a % 4294967296 * (b / 4294967296) = two at *
  generalize hhh : a / 4294967296 * (b / 4294967296) = hh at *
  have wlo : IntKind.u64.wrap lo = lo := by simp only [IntKind.wrap_u64]; omega
  have wone : IntKind.u64.wrap one = one := by simp only [IntKind.wrap_u64]; omega
  have wtwo : IntKind.u64.wrap two = two := by simp only [IntKind.wrap_u64]; omega
  have whh : IntKind.u64.wrap hh = hh := by simp only [IntKind.wrap_u64]; omega
  have m1 : IntKind.u64.wrap (lo / 4294967296 + one % 4294967296) = lo / 4294967296 + one % 4294967296 := by simp only [IntKind.wrap_u64]; omega
  have m2 : IntKind.u64.wrap (lo / 4294967296 + one % 4294967296 + two % 4294967296) = lo / 4294967296 + one % 4294967296 + two % 4294967296 := by simp only [IntKind.wrap_u64]; omega
  have n1 : IntKind.u64.wrap (hh + one / 4294967296) = hh + one / 4294967296 := by simp only [IntKind.wrap_u64]; omega
  have n2 : IntKind.u64.wrap (hh + one / 4294967296 + two / 4294967296) = hh + one / 4294967296 + two / 4294967296 := by simp only [IntKind.wrap_u64]; omega
  have n3 : IntKind.u64.wrap (hh + one / 4294967296 + two / 4294967296 + (lo / 4294967296 + one % 4294967296 + two % 4294967296) / 4294967296) = hi64 (a * b) := by
    rw [hab]; simp only [IntKind.wrap_u64]; unfold hi64; omega
  have HAB := Lib.hid hab
  have k1 : IntKind.u64.wrap (a / 4294967296) = a / 4294967296 := by simp only [IntKind.wrap_u64]; omega
  have k2 : IntKind.u64.wrap (b / 4294967296) = b / 4294967296 := by simp only [IntKind.wrap_u64]; omega
  have k3 : IntKind.u64.wrap (lo / 4294967296) = lo / 4294967296 := by simp only [IntKind.wrap_u64]; omega
  have k4 : IntKind.u64.wrap (one / 4294967296) = one / 4294967296 := by simp only [IntKind.wrap_u64]; omega
  have k5 : IntKind.u64.wrap (two / 4294967296) = two / 4294967296 := by simp only [IntKind.wrap_u64]; omega
  have j1 : 0 ≤ lo / 4294967296 + one % 4294967296 + two % 4294967296 := by omega
  have k6 : IntKind.u64.wrap ((lo / 4294967296 + one % 4294967296 + two % 4294967296) / 4294967296) = (lo / 4294967296 + one % 4294967296 + two % 4294967296) / 4294967296 := by simp only [IntKind.wrap_u64]; omega
  have orf : bits .or .u64 (IntKind.u64.wrap ((lo / 4294967296 + one % 4294967296 + two % 4294967296) * 4294967296)) (lo % 4294967296) = lo64 (a * b) := by
    rw [or_join _ _ (by simp only [IntKind.wrap_u64]; omega) (by simp only [IntKind.wrap_u64]; omega) (by simp only [IntKind.wrap_u64]; omega) (by omega) (by omega), hab]
    simp only [IntKind.wrap_u64]; unfold lo64; omega
  clear hab
  go_enter Try.func102, Try.ntmps102
  go_wp2_with fail
  go_quiet (fail)
  go_wp2_with fail
  go_quiet (fail)
  go_wp2_with fail
  go_quiet (fail)
  go_wp2_with fail
  go_quiet (fail)
  go_wp2_with fail
  go_region
  go_wp2_with fail
  simp [bodyPost, results, Try.results102, go_sem]
  exact ((below_drewN ((Below.refl _ _).alloc (Nat.le_refl _) _) _).setCell (Nat.le_refl _) _).setCell (Nat.le_refl _) _
end Go.Proofs.Ytnpigefbdadjfaa
