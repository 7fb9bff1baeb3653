/- The model's wide numbers: sums, differences, the bit by bit division. -/
import Derived.Test.YtnpigefbdadjfaaDoorCmp
import Derived.Test.YtnpigefbdadjfaaDoorBk
namespace Go.Proofs.YtnpigefbdadjfaaDoor
open Go Go.RowKit
set_option linter.unusedVariables false

theorem plus_words (X Y : Int) : IntKind.u64.wrap (lo64 X + lo64 Y) = lo64 (X + Y) ∧ (lo64 (X + Y) < lo64 X → IntKind.u64.wrap (IntKind.u64.wrap (hi64 X + hi64 Y) + 1) = hi64 (X + Y)) ∧ (¬ lo64 (X + Y) < lo64 X → IntKind.u64.wrap (hi64 X + hi64 Y) = hi64 (X + Y)) := by
  simp only [IntKind.wrap_u64]
  unfold lo64 hi64
  refine ⟨by omega, fun h => by omega, fun h => by omega⟩
theorem minus_words (X Y : Int) : IntKind.u64.wrap (lo64 X - lo64 Y) = lo64 (X - Y) ∧ (lo64 X < lo64 Y → IntKind.u64.wrap (IntKind.u64.wrap (hi64 X - hi64 Y) - 1) = hi64 (X - Y)) ∧ (¬ lo64 X < lo64 Y → IntKind.u64.wrap (hi64 X - hi64 Y) = hi64 (X - Y)) := by
  simp only [IntKind.wrap_u64]
  unfold lo64 hi64
  refine ⟨by omega, fun h => by omega, fun h => by omega⟩
/-- The value behind the first bits. -/
theorem half_step (N i : Nat) : N / 2 ^ i = 2 * (N / 2 ^ (i + 1)) + N / 2 ^ i % 2 := by
  have : N / 2 ^ (i + 1) = N / 2 ^ i / 2 := by rw [Nat.pow_succ, Nat.div_div_eq_div_mul]
  rw [this]; omega
theorem div_step (V b d : Nat) (hd : 0 < d) (hb : b ≤ 1) : ((2 * V + b) / d = 2 * (V / d) + (if d ≤ 2 * (V % d) + b then 1 else 0)) ∧ ((2 * V + b) % d = 2 * (V % d) + b - (if d ≤ 2 * (V % d) + b then d else 0)) := by
  have h1 := Nat.div_add_mod V d
  have h2 := Nat.mod_lt V hd
  generalize V / d = q at *
  generalize V % d = r at *
  have e : 2 * V + b = (2 * r + b) + d * (2 * q) := by rw [← h1, Nat.mul_add]; have := Nat.mul_left_comm 2 d q; omega
  rw [e, Nat.add_mul_div_left _ _ hd, Nat.add_mul_mod_self_left]
  split
  · rename_i h
    have e2 : 2 * r + b = (2 * r + b - d) + d * 1 := by omega
    constructor
    · rw [e2, Nat.add_mul_div_left _ _ hd, Nat.div_eq_of_lt (by omega)]; omega
    · conv => lhs; rw [e2]
      rw [Nat.add_mul_mod_self_left, Nat.mod_eq_of_lt (by omega)]
  · rename_i h
    constructor
    · rw [Nat.div_eq_of_lt (by omega)]; omega
    · rw [Nat.mod_eq_of_lt (by omega)]; omega
theorem hi_nat (N : Nat) : hi64 (N : Int) = ((N / 18446744073709551616 % 18446744073709551616 : Nat) : Int) := by unfold hi64; omega
theorem lo_nat (N : Nat) : lo64 (N : Int) = ((N % 18446744073709551616 : Nat) : Int) := by unfold lo64; omega
theorem pow_cast (e : Nat) : ((2 : Int) ^ e) = ((2 ^ e : Nat) : Int) := by simp
theorem and_one (x : Nat) (hx : x < 18446744073709551616) : bits .and .u64 (x : Int) 1 = ((x % 2 : Nat) : Int) := by
  have := bits_and_u64_nat x 1 hx (by decide)
  rw [Nat.and_one_is_mod] at this
  exact this
theorem bit_high (N k : Nat) (hN : N < 340282366920938463463374607431768211456) (hk : k < 64) : bits .and .u64 (hi64 (N : Int) / 2 ^ (127 - k - 64)) 1 = ((N / 2 ^ (127 - k) % 2 : Nat) : Int) := by
  have h1 : N / 18446744073709551616 % 18446744073709551616 / 2 ^ (127 - k - 64) < 18446744073709551616 := Nat.lt_of_le_of_lt (Nat.div_le_self _ _) (Nat.mod_lt _ (by decide))
  rw [hi_nat, pow_cast, ← Int.natCast_ediv, and_one _ h1]
  have e : N / 18446744073709551616 % 18446744073709551616 = N / 2 ^ 64 := by omega
  rw [e, Nat.div_div_eq_div_mul, ← Nat.pow_add, show 64 + (127 - k - 64) = 127 - k by omega]
theorem bit_low (N k : Nat) (hk : 64 ≤ k) (hk2 : k < 128) : bits .and .u64 (lo64 (N : Int) / 2 ^ ((127 - k) % 64)) 1 = ((N / 2 ^ (127 - k) % 2 : Nat) : Int) := by
  have h1 : N % 18446744073709551616 / 2 ^ ((127 - k) % 64) < 18446744073709551616 := Nat.lt_of_le_of_lt (Nat.div_le_self _ _) (Nat.mod_lt _ (by decide))
  rw [lo_nat, pow_cast, ← Int.natCast_ediv, and_one _ h1, Nat.mod_eq_of_lt (show 127 - k < 64 by omega)]
  obtain ⟨j, hj⟩ : ∃ j, 64 = 127 - k + (j + 1) := ⟨64 - (127 - k) - 1, by omega⟩
  generalize 127 - k = e at *
  rw [show (18446744073709551616 : Nat) = 2 ^ e * 2 ^ (j + 1) by rw [← Nat.pow_add, ← hj], Nat.mod_mul_right_div_self, Nat.pow_succ, Nat.mul_comm (2 ^ j) 2, Nat.mod_mul_right_mod]
theorem dbl_words (Q : Nat) (hQ : 2 * Q + 1 < 340282366920938463463374607431768211456) : bits .or .u64 (IntKind.u64.wrap (hi64 (Q : Int) * 2)) (lo64 (Q : Int) / 9223372036854775808) = hi64 ((2 * Q : Nat) : Int) ∧ hi64 ((2 * Q + 1 : Nat) : Int) = hi64 ((2 * Q : Nat) : Int) ∧ IntKind.u64.wrap (lo64 (Q : Int) * 2) = lo64 ((2 * Q : Nat) : Int) ∧ bits .or .u64 (lo64 ((2 * Q : Nat) : Int)) 1 = lo64 ((2 * Q + 1 : Nat) : Int) := by
  refine ⟨?_, by unfold hi64; omega, by simp only [IntKind.wrap_u64]; unfold lo64; omega, ?_⟩
  · have e1 : IntKind.u64.wrap (hi64 (Q : Int) * 2) = ((2 ^ 1 * (Q / 18446744073709551616) : Nat) : Int) := by simp only [IntKind.wrap_u64]; unfold hi64; omega
    have e2 : lo64 (Q : Int) / 9223372036854775808 = ((Q % 18446744073709551616 / 9223372036854775808 : Nat) : Int) := by unfold lo64; omega
    rw [e1, e2, bits_or_u64_nat _ _ (by omega) (by omega), ← Nat.two_pow_add_eq_or_of_lt (by omega)]
    unfold hi64; omega
  · have e1 : lo64 ((2 * Q : Nat) : Int) = ((2 ^ 1 * (Q % 9223372036854775808) : Nat) : Int) := by unfold lo64; omega
    have := bits_or_u64_nat (2 ^ 1 * (Q % 9223372036854775808)) 1 (by omega) (by decide)
    rw [e1]
    refine this.trans ?_
    rw [← Nat.two_pow_add_eq_or_of_lt (by decide)]
    unfold lo64; omega
end Go.Proofs.YtnpigefbdadjfaaDoor
