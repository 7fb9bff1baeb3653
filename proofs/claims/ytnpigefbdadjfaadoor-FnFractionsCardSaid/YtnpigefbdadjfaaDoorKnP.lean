/- Plain: the quotient of two words by one, a digit of 32 bits at a time. -/
import Derived.Test.YtnpigefbdadjfaaDoorPl
namespace Go.Proofs.YtnpigefbdadjfaaDoor
open Go Go.RowKit
set_option linter.unusedVariables false

/-- A divisor of two digits whose greatest bit is 1, and the number that is divided. -/
structure KnD (y1 y0 u v : Int) : Prop where
  a1 : 2147483648 ≤ y1
  a2 : y1 < 4294967296
  b1 : 0 ≤ y0
  b2 : y0 < 4294967296
  c1 : 0 ≤ u
  c2 : u < y1 * 4294967296 + y0
  d1 : 0 ≤ v
  d2 : v < 4294967296
def knY (y1 y0 : Int) : Int := y1 * 4294967296 + y0
def knN (u v : Int) : Int := u * 4294967296 + v
/-- A guess q that is not too small, and what it leaves of the first digits. -/
structure KnQ (y1 y0 u v q r : Int) : Prop where
  q0 : 0 ≤ q
  q1 : q ≤ 4294967297
  r0 : 0 ≤ r
  eq : q * y1 + r = u
  up : knN u v < (q + 1) * knY y1 y0
theorem kn_mul (q y1 y0 : Int) : q * knY y1 y0 = q * y1 * 4294967296 + q * y0 := by
  unfold knY; rw [Int.mul_add, Int.mul_assoc]
theorem kn_add1 (q z : Int) : (q + 1) * z = q * z + z := by rw [Int.add_mul, Int.one_mul]
theorem knQ_init {y1 y0 u v : Int} (h : KnD y1 y0 u v) : KnQ y1 y0 u v (u / y1) (u - u / y1 * y1) ∧ u - u / y1 * y1 < 4294967296 := by
  obtain ⟨a1, a2, b1, b2, c1, c2, d1, d2⟩ := h
  have e1 := Int.mul_ediv_add_emod u y1
  have e2 := Int.emod_nonneg u (show y1 ≠ 0 by omega)
  have e3 := Int.emod_lt_of_pos u (show 0 < y1 by omega)
  have e0 : 0 ≤ u / y1 := Int.ediv_nonneg c1 (by omega)
  rw [Int.mul_comm] at e1
  generalize u / y1 = q at *
  refine ⟨⟨e0, ?_, by omega, by omega, ?_⟩, by omega⟩
  · refine Int.not_lt.1 fun hq => ?_
    have : 4294967298 * y1 ≤ q * y1 := Int.mul_le_mul_of_nonneg_right (by omega) (by omega)
    omega
  · rw [kn_add1, kn_mul]
    have h0 : 0 ≤ q * y0 := Int.mul_nonneg e0 b1
    unfold knN knY
    omega
theorem kn_big {y1 y0 u v q r : Int} (h : KnD y1 y0 u v) (k : KnQ y1 y0 u v q r) (hq : 4294967296 ≤ q) : knN u v < q * knY y1 y0 := by
  obtain ⟨a1, a2, b1, b2, c1, c2, d1, d2⟩ := h
  have h1 : 4294967296 * knY y1 y0 ≤ q * knY y1 y0 := Int.mul_le_mul_of_nonneg_right hq (by unfold knY; omega)
  have h2 : knN u v < 4294967296 * knY y1 y0 := by unfold knN knY; omega
  omega
theorem kn_test {y1 y0 u v q r : Int} (k : KnQ y1 y0 u v q r) : r * 4294967296 + v < q * y0 ↔ knN u v < q * knY y1 y0 := by
  obtain ⟨q0, q1, r0, eq, up⟩ := k
  rw [kn_mul]
  unfold knN
  rw [← eq]
  constructor <;> intro h <;> omega
theorem kn_less {y1 y0 u v q r : Int} (h : KnD y1 y0 u v) (k : KnQ y1 y0 u v q r) (hq : knN u v < q * knY y1 y0) : KnQ y1 y0 u v (q - 1) (r + y1) ∧ 1 ≤ q := by
  obtain ⟨a1, a2, b1, b2, c1, c2, d1, d2⟩ := h
  obtain ⟨q0, q1, r0, eq, up⟩ := k
  have h1 : 1 ≤ q := by
    refine Int.not_lt.1 fun h1 => ?_
    have : q = 0 := by omega
    rw [this, Int.zero_mul] at hq
    unfold knN at hq
    omega
  refine ⟨⟨by omega, by omega, by omega, ?_, ?_⟩, h1⟩
  · rw [Int.sub_mul, Int.one_mul]; omega
  · rw [show q - 1 + 1 = q by omega]; exact hq
theorem kn_done {y1 y0 u v q r : Int} (h : KnD y1 y0 u v) (k : KnQ y1 y0 u v q r) (hq : ¬ knN u v < q * knY y1 y0) : q = knN u v / knY y1 y0 ∧ knN u v - q * knY y1 y0 = knN u v % knY y1 y0 := by
  obtain ⟨a1, a2, b1, b2, c1, c2, d1, d2⟩ := h
  have hy : 0 < knY y1 y0 := by unfold knY; omega
  have up := k.up
  rw [kn_add1] at up
  have e1 := Int.mul_ediv_add_emod (knN u v) (knY y1 y0)
  have e : q = knN u v / knY y1 y0 := by
    refine ((Int.ediv_emod_unique hy (r := knN u v - q * knY y1 y0) (q := q)).2 ⟨?_, by omega, by omega⟩).1.symm
    rw [Int.mul_comm]; omega
  refine ⟨e, ?_⟩
  rw [← e, Int.mul_comm] at e1
  omega
theorem kn_break {y1 y0 u v q r : Int} (h : KnD y1 y0 u v) (k : KnQ y1 y0 u v q r) (hr : 4294967296 ≤ r) (hq : q ≤ 4294967296) : ¬ knN u v < q * knY y1 y0 := by
  obtain ⟨a1, a2, b1, b2, c1, c2, d1, d2⟩ := h
  rw [← kn_test k]
  have h1 : q * y0 ≤ 4294967296 * y0 := Int.mul_le_mul_of_nonneg_right hq b1
  omega
theorem kn_bd {y1 y0 u v q r : Int} (h : KnD y1 y0 u v) (k : KnQ y1 y0 u v q r) : 0 ≤ q * y0 ∧ q * y0 ≤ 18446744073709551615 := by
  obtain ⟨a1, a2, b1, b2, c1, c2, d1, d2⟩ := h
  have h1 : q * y0 ≤ 4294967297 * y0 := Int.mul_le_mul_of_nonneg_right k.q1 b1
  have h2 : 0 ≤ q * y0 := Int.mul_nonneg k.q0 b1
  omega
theorem kn_quo {y1 y0 u v : Int} (h : KnD y1 y0 u v) : 0 ≤ knN u v / knY y1 y0 ∧ knN u v / knY y1 y0 ≤ 4294967295 := by
  obtain ⟨a1, a2, b1, b2, c1, c2, d1, d2⟩ := h
  have hy : 0 < knY y1 y0 := by unfold knY; omega
  refine ⟨Int.ediv_nonneg (by unfold knN; omega) (by omega), ?_⟩
  have : knN u v / knY y1 y0 < 4294967296 := by
    rw [Int.ediv_lt_iff_lt_mul hy]
    unfold knN knY; omega
  omega
/-- Both digits. -/
theorem kn_two {y u a b : Int} (hy : 0 < y) : (u * 18446744073709551616 + (a * 4294967296 + b)) / y = (u * 4294967296 + a) / y * 4294967296 + ((u * 4294967296 + a) % y * 4294967296 + b) / y ∧ (u * 18446744073709551616 + (a * 4294967296 + b)) % y = ((u * 4294967296 + a) % y * 4294967296 + b) % y := by
  have e1 := Int.mul_ediv_add_emod (u * 4294967296 + a) y
  have e : u * 18446744073709551616 + (a * 4294967296 + b) = ((u * 4294967296 + a) % y * 4294967296 + b) + y * ((u * 4294967296 + a) / y * 4294967296) := by
    rw [← Int.mul_assoc]
    omega
  rw [e, Int.add_mul_ediv_left _ _ (by omega), Int.add_mul_emod_self_left]
  exact ⟨by omega, rfl⟩
theorem kn_shift {N y : Int} (s : Nat) (hy : 0 < y) : N * (2 ^ s : Nat) / (y * (2 ^ s : Nat)) = N / y ∧ N * (2 ^ s : Nat) % (y * (2 ^ s : Nat)) / (2 ^ s : Nat) = N % y := by
  have h2 : (0 : Int) < ((2 ^ s : Nat) : Int) := by have := Nat.pow_pos (n := s) (show 0 < 2 by decide); omega
  refine ⟨Int.mul_ediv_mul_of_pos_left _ _ h2, ?_⟩
  rw [Int.mul_comm N, Int.mul_comm y, Int.mul_emod_mul_of_pos _ _ h2, Int.mul_ediv_cancel_left _ (by omega)]
/-- A word that is moved to the left, with what comes in from the next one. -/
theorem kn_words {hi lo : Nat} {s : Nat} (hs : s ≤ 64) (hl : lo < 18446744073709551616) : (hi * 18446744073709551616 + lo) * 2 ^ s = (hi * 2 ^ s + lo / 2 ^ (64 - s)) * 18446744073709551616 + lo * 2 ^ s % 18446744073709551616 := by
  have e : (18446744073709551616 : Nat) = 2 ^ (64 - s) * 2 ^ s := by rw [← Nat.pow_add, Nat.sub_add_cancel hs]
  have h1 : lo * 2 ^ s / 18446744073709551616 = lo / 2 ^ (64 - s) := by
    rw [e]; exact Nat.mul_div_mul_right _ _ (Nat.pow_pos (by decide))
  have h2 := Nat.div_add_mod (lo * 2 ^ s) 18446744073709551616
  rw [h1] at h2
  rw [Nat.add_mul, Nat.add_mul]
  have h3 : hi * 18446744073709551616 * 2 ^ s = hi * 2 ^ s * 18446744073709551616 := by rw [Nat.mul_assoc, Nat.mul_comm 18446744073709551616, ← Nat.mul_assoc]
  omega
theorem kn_in {lo s : Nat} (hs : s ≤ 64) (hl : lo < 18446744073709551616) : lo / 2 ^ (64 - s) < 2 ^ s := by
  rw [Nat.div_lt_iff_lt_mul (Nat.pow_pos (by decide)), ← Nat.pow_add]
  rw [show s + (64 - s) = 64 by omega]
  exact hl
theorem kn_up {y k : Nat} (h1 : k ≤ 64) (h2 : 2 ^ k ≤ 2 * y) (h3 : y < 2 ^ k) : 9223372036854775808 ≤ y * 2 ^ (64 - k) ∧ y * 2 ^ (64 - k) < 18446744073709551616 := by
  have e : 2 ^ k * 2 ^ (64 - k) = 18446744073709551616 := by rw [← Nat.pow_add, Nat.add_sub_cancel' h1]
  have hp : 0 < 2 ^ (64 - k) := Nat.pow_pos (by decide)
  constructor
  · have := Nat.mul_le_mul_right (2 ^ (64 - k)) h2
    rw [e, Nat.mul_assoc] at this
    omega
  · have := Nat.mul_lt_mul_of_pos_right h3 hp
    rw [e] at this
    exact this
theorem kn_fin {hi lo y s Y LO U : Nat} (hy : 0 < y) (hY : Y = y * 2 ^ s) (hW : (hi * 18446744073709551616 + lo) * 2 ^ s = U * 18446744073709551616 + LO) :
    (((hi * 18446744073709551616 + lo) / y : Nat) : Int) = knN U ((LO : Int) / 4294967296) / (Y : Int) * 4294967296 + knN (knN U ((LO : Int) / 4294967296) % (Y : Int)) ((LO : Int) % 4294967296) / (Y : Int) ∧
    (((hi * 18446744073709551616 + lo) % y : Nat) : Int) = knN (knN U ((LO : Int) / 4294967296) % (Y : Int)) ((LO : Int) % 4294967296) % (Y : Int) / 2 ^ s := by
  have hp : 0 < 2 ^ s := Nat.pow_pos (by decide)
  have hY0 : 0 < Y := by rw [hY]; exact Nat.mul_pos hy hp
  obtain ⟨a1, a2⟩ := kn_two (y := (Y : Int)) (u := (U : Int)) (a := (LO : Int) / 4294967296) (b := (LO : Int) % 4294967296) (by omega)
  have e : (U : Int) * 18446744073709551616 + ((LO : Int) / 4294967296 * 4294967296 + (LO : Int) % 4294967296) = (((hi * 18446744073709551616 + lo) * 2 ^ s : Nat) : Int) := by rw [hW]; omega
  rw [e] at a1 a2
  obtain ⟨b1, b2⟩ := kn_shift (N := ((hi * 18446744073709551616 + lo : Nat) : Int)) (y := (y : Int)) s (by omega)
  rw [← Int.natCast_mul, ← Int.natCast_mul, ← hY] at b1 b2
  have e2 : ((2 ^ s : Nat) : Int) = (2 : Int) ^ s := by simp
  unfold knN
  constructor
  · rw [← a1, b1]; exact Int.natCast_ediv _ _
  · rw [← a2, ← e2, b2]; exact Int.natCast_emod _ _
/-- What a word is left with. -/
theorem kn_left {u v p r : Int} (h : knN u v - p = r) (h0 : 0 ≤ r) (h1 : r < 18446744073709551616) : ((u * 4294967296) % 18446744073709551616 + v) % 18446744073709551616 - p % 18446744073709551616 = r ∨ (((u * 4294967296) % 18446744073709551616 + v) % 18446744073709551616 - p % 18446744073709551616) % 18446744073709551616 = r := by
  unfold knN at h
  omega
end Go.Proofs.YtnpigefbdadjfaaDoor
