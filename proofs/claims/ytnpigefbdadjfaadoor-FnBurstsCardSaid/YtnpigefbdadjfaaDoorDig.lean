/- Contracts of l01Digits and of the model's and the program's BitsOf. -/
import Derived.Test.YtnpigefbdadjfaaDoorOwn
namespace Go.Proofs.YtnpigefbdadjfaaDoor
open Go Go.RowKit
set_option linter.unusedVariables false

/-- The digit of a number at a place, as a byte. -/
def dg (n : Int) (i : Nat) : UInt8 := UInt8.ofNat (48 + (n / 2 ^ i % 2).toNat)
def digs (n : Int) (width k : Nat) : List UInt8 := (List.range k).map fun j => dg n (width - 1 - j)
theorem digs_succ (n : Int) (width k : Nat) : digs n width (k + 1) = digs n width k ++ [dg n (width - 1 - k)] := by simp [digs, List.range_succ]
theorem digs_length (n : Int) (width k : Nat) : (digs n width k).length = k := by simp [digs]
theorem dg_val (n : Int) (i : Nat) : ((dg n i).toNat : Int) = 48 + n / 2 ^ i % 2 := by
  have h1 : 0 ≤ n / 2 ^ i % 2 := Int.emod_nonneg _ (by decide)
  have h2 : n / 2 ^ i % 2 < 2 := Int.emod_lt_of_pos _ (by decide)
  unfold dg
  rw [UInt8.toNat_ofNat']
  omega
theorem i64_and1 (n : Int) : bits .and .i64 n 1 = n % 2 := by
  have h1 : (BitVec.ofInt 64 1).toNat = 2 ^ 1 - 1 := by decide
  have key : (BitVec.ofInt 64 n &&& BitVec.ofInt 64 1).toNat = (n % ((2 ^ 64 : Nat) : Int)).toNat % 2 ^ 1 := by
    rw [BitVec.toNat_and, BitVec.toNat_ofInt, h1, Nat.and_two_pow_sub_one_eq_mod]
  show IntKind.i64.wrap ((BitVec.ofInt 64 n &&& BitVec.ofInt 64 1).toNat : Nat) = n % 2
  rw [key, IntKind.wrap_i64]
  omega

/-- Whether a number has a width. -/
def bofOk (n width : Int) : Bool := decide (0 ≤ width ∧ width ≤ 60 ∧ 0 ≤ n ∧ n < 2 ^ width.toNat)

theorem two_pow_bd (k : Nat) (hk : k ≤ 60) : (1 : Int) ≤ 2 ^ k ∧ (2 : Int) ^ k ≤ 1152921504606846976 := by
  have h1 : 2 ^ k ≤ 2 ^ 60 := Nat.pow_le_pow_right (by decide) hk
  have h2 : 1 ≤ 2 ^ k := Nat.one_le_two_pow
  have h3 : (2 : Nat) ^ 60 = 1152921504606846976 := by rfl
  rw [h3] at h1
  have e : ((2 ^ k : Nat) : Int) = (2 : Int) ^ k := by rw [Int.natCast_pow]; rfl
  rw [← e]
  constructor <;> omega

/-- A row of zeros of which the first k are digits. -/
def part (n : Int) (width k : Nat) : List Value := byteVals (digs n width k) ++ List.replicate (width - k) (.int .u8 0)
theorem part_zero (n : Int) (width : Nat) : part n width 0 = List.replicate width (.int .u8 0) := by simp [part, digs, byteVals]
theorem part_full (n : Int) (width : Nat) : part n width width = byteVals (digs n width width) := by simp [part]
theorem part_set (n : Int) (width k : Nat) (hk : k < width) : (part n width k).set k (.int .u8 (48 + n / 2 ^ (width - 1 - k) % 2)) = part n width (k + 1) := by
  unfold part
  rw [List.set_append, if_neg (by rw [byteVals_length, digs_length]; omega), byteVals_length, digs_length, Nat.sub_self, digs_succ, ← byteVals_snoc, dg_val]
  obtain ⟨m, hm⟩ : ∃ m, width - k = m + 1 := ⟨width - k - 1, by omega⟩
  rw [hm, show width - (k + 1) = m from by omega, List.replicate_succ]
  simp

end Go.Proofs.YtnpigefbdadjfaaDoor
