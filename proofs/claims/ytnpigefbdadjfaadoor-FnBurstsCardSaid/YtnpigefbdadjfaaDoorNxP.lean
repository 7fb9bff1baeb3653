/- The next mask with as many bits 1: the program's arithmetic (plain). -/
import Derived.Test.YtnpigefbdadjfaaDoorMsP
import Derived.Lib.TrailingZeros
import Derived.Laws.BitsAllLaws
namespace Go.Proofs.YtnpigefbdadjfaaDoor
open Go

theorem nx_two (s : Nat) : 2 ^ (s + 1) = 2 * 2 ^ s := by rw [Nat.pow_succ]; omega
theorem nx_m (s A k : Nat) : (A * 2 ^ (s + 2) + (2 ^ (s + 1) - 1)) * 2 ^ k = 2 ^ k * (2 * (A * 2 ^ (s + 1) + (2 ^ s - 1)) + 1) := by
  have h1 := nx_two s
  have h2 := nx_two (s + 1)
  have h0 := Nat.two_pow_pos s
  have e : A * 2 ^ (s + 2) = 2 * (A * 2 ^ (s + 1)) := by rw [show s + 2 = s + 1 + 1 by omega, h2, Nat.mul_left_comm]
  rw [Nat.mul_comm _ (2 ^ k), e]
  congr 1
  omega
theorem nx_low (s A k m : Nat) (hm : m = (A * 2 ^ (s + 2) + (2 ^ (s + 1) - 1)) * 2 ^ k) (h : m < 4294967296) : m &&& (18446744073709551616 - m) = 2 ^ k := by
  rw [nx_m] at hm
  rw [hm]
  exact Lib.and_neg 64 k _ (by rw [← hm]; omega)
theorem nx_mov (s A k m : Nat) (hm : m = (A * 2 ^ (s + 2) + (2 ^ (s + 1) - 1)) * 2 ^ k) : m + 2 ^ k = (A * 2 ^ (s + 2) + 2 ^ (s + 1)) * 2 ^ k := by
  have := Nat.two_pow_pos (s + 1)
  rw [hm, ← Nat.succ_mul]
  congr 1
  omega
theorem nx_xor0 (s A : Nat) : (A * 2 ^ (s + 2) + (2 ^ (s + 1) - 1)) ^^^ (A * 2 ^ (s + 2) + 2 ^ (s + 1)) = 2 ^ (s + 2) - 1 := by
  have hp := Nat.two_pow_pos (s + 1)
  have h2 := nx_two (s + 1)
  have e1 : A * 2 ^ (s + 2) + (2 ^ (s + 1) - 1) = 2 ^ (s + 1) * (2 * A) + (2 ^ (s + 1) - 1) := by
    rw [show s + 2 = s + 1 + 1 by omega, h2, ← Nat.mul_assoc, Nat.mul_comm (A * 2), Nat.mul_comm A 2]
  have e2 : A * 2 ^ (s + 2) + 2 ^ (s + 1) = 2 ^ (s + 1) * (2 * A + 1) + 0 := by
    rw [show s + 2 = s + 1 + 1 by omega, h2, ← Nat.mul_assoc, Nat.mul_comm (A * 2), Nat.mul_comm A 2, Nat.mul_succ]
    rfl
  rw [e1, e2]
  apply Nat.eq_of_testBit_eq
  intro j
  rw [Nat.testBit_xor, Nat.testBit_two_pow_mul_add _ (by omega), Nat.testBit_two_pow_mul_add _ hp]
  by_cases h : j < s + 1
  · rw [if_pos h, if_pos h, Nat.testBit_two_pow_sub_one, Nat.testBit_two_pow_sub_one, Nat.zero_testBit, decide_eq_true h, decide_eq_true (show j < s + 2 by omega)]; rfl
  · rw [if_neg h, if_neg h]
    rcases Nat.lt_or_ge j (s + 2) with h3 | h3
    · rw [show j - (s + 1) = 0 by omega, Nat.testBit_two_pow_sub_one, decide_eq_true h3, Nat.testBit_zero, Nat.testBit_zero]
      have q1 : (2 * A) % 2 = 0 := by omega
      have q2 : (2 * A + 1) % 2 = 1 := by omega
      rw [q1, q2]; rfl
    · obtain ⟨t, ht⟩ : ∃ t, j - (s + 1) = t + 1 := ⟨j - (s + 1) - 1, by omega⟩
      rw [ht, Nat.testBit_two_pow_sub_one, decide_eq_false (by omega), Nat.testBit_succ, Nat.testBit_succ]
      have q1 : (2 * A) / 2 = A := by omega
      have q2 : (2 * A + 1) / 2 = A := by omega
      rw [q1, q2, Bool.xor_self]
theorem nx_xor (s A k m : Nat) (hm : m = (A * 2 ^ (s + 2) + (2 ^ (s + 1) - 1)) * 2 ^ k) : m ^^^ (m + 2 ^ k) = (2 ^ (s + 2) - 1) * 2 ^ k := by
  have hh : ∀ a b : Nat, (a * 2 ^ k) ^^^ (b * 2 ^ k) = (a ^^^ b) * 2 ^ k := fun a b => by rw [← Nat.shiftLeft_eq, ← Nat.shiftLeft_eq, ← Nat.shiftLeft_xor_distrib, Nat.shiftLeft_eq]
  rw [nx_mov s A k m hm, hm, hh, nx_xor0]
theorem nx_end (s k : Nat) : (2 ^ (s + 2) - 1) * 2 ^ k / 2 ^ k / 4 = 2 ^ s - 1 := by
  rw [Nat.mul_div_cancel _ (Nat.two_pow_pos k)]
  have h1 := nx_two s
  have h2 := nx_two (s + 1)
  have h0 := Nat.two_pow_pos s
  rw [show s + 2 = s + 1 + 1 by omega]
  omega
theorem nx_or (s A k m : Nat) (hm : m = (A * 2 ^ (s + 2) + (2 ^ (s + 1) - 1)) * 2 ^ k) : (m + 2 ^ k) ||| (2 ^ s - 1) = nxM k s A := by
  have h0 := Nat.two_pow_pos s
  have e : (A * 2 ^ (s + 2) + 2 ^ (s + 1)) * 2 ^ k = 2 ^ s * ((A * 4 + 2) * 2 ^ k) := by
    rw [show 2 ^ (s + 2) = 2 ^ s * 4 from by rw [Nat.pow_add], show 2 ^ (s + 1) = 2 ^ s * 2 from by rw [Nat.pow_add], ← Nat.mul_assoc A, Nat.mul_comm A, Nat.mul_assoc (2 ^ s), ← Nat.mul_add, Nat.mul_assoc]
  rw [nx_mov s A k m hm, e, ← Nat.two_pow_add_eq_or_of_lt (show 2 ^ s - 1 < 2 ^ s by omega)]
  unfold nxM
  rw [e]
theorem nx_bd (s A k m : Nat) (hm : m = (A * 2 ^ (s + 2) + (2 ^ (s + 1) - 1)) * 2 ^ k) : 2 ^ k ≤ m ∧ 2 ^ s - 1 ≤ m ∧ nxM k s A ≤ 3 * m := by
  have h0 := Nat.two_pow_pos s
  have hk := Nat.two_pow_pos k
  have h1 := nx_two s
  have a1 : 2 ^ k ≤ m := by
    rw [nx_m] at hm
    rw [hm]
    exact Nat.le_mul_of_pos_right _ (by omega)
  have a2 : 2 ^ s - 1 ≤ m := by
    rw [hm]
    refine Nat.le_trans ?_ (Nat.le_mul_of_pos_right _ hk)
    omega
  refine ⟨a1, a2, ?_⟩
  unfold nxM
  rw [← nx_mov s A k m hm]
  omega
end Go.Proofs.YtnpigefbdadjfaaDoor
