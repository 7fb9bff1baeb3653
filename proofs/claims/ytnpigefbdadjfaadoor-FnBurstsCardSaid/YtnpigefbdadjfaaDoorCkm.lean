/- The model's checks: l08Degree, l08Next, l08Rest, l08Sum; CheckBits, AddCheck, HasCheck. -/
import Derived.Test.YtnpigefbdadjfaaDoorDvm
import Derived.Test.YtnpigefbdadjfaaDoorIck
import Derived.Test.YtnpigefbdadjfaaDoorOrP
import Derived.Test.YtnpigefbdadjfaaDoorDig
namespace Go.Proofs.YtnpigefbdadjfaaDoor
open Go Go.RowKit
set_option linter.unusedVariables false

theorem i64_wn (x : Nat) (h : x < 9223372036854775808) : IntKind.i64.wrap (x : Int) = (x : Int) := IntWalk.i64_in _ (by omega)
theorem i64_or_nat (a b : Nat) (ha : a < 4611686018427387904) (hb : b < 4611686018427387904) : bits .or .i64 (a : Int) (b : Int) = ((a ||| b : Nat) : Int) := by
  have hx : a ||| b < 2 ^ 62 := Nat.or_lt_two_pow (by omega) (by omega)
  show IntKind.i64.wrap ((BitVec.ofInt 64 (a : Int) ||| BitVec.ofInt 64 (b : Int)).toNat : Int) = _
  rw [BitVec.toNat_or, ofInt_u64 a (by omega), ofInt_u64 b (by omega)]
  exact i64_wn _ (by omega)
theorem i64_xor_nat (a b : Nat) (ha : a < 4611686018427387904) (hb : b < 4611686018427387904) : bits .xor .i64 (a : Int) (b : Int) = ((a ^^^ b : Nat) : Int) := by
  have hx : a ^^^ b < 2 ^ 62 := Nat.xor_lt_two_pow (by omega) (by omega)
  show IntKind.i64.wrap ((BitVec.ofInt 64 (a : Int) ^^^ BitVec.ofInt 64 (b : Int)).toNat : Int) = _
  rw [BitVec.toNat_xor, ofInt_u64 a (by omega), ofInt_u64 b (by omega)]
  exact i64_wn _ (by omega)
theorem log_down {x : Nat} (h : 1 < x) : Nat.log2 x = Nat.log2 (x / 2) + 1 := by rw [Nat.log2_def, if_pos (by omega)]
theorem log_one : Nat.log2 1 = 0 := by decide
theorem next_top {d t : Nat} (h : t < 2 ^ (d + 1)) : t.testBit d = decide (0 < t / 2 ^ d) := by
  rw [Nat.testBit_eq_decide_div_mod_eq]
  have : t / 2 ^ d < 2 := (Nat.div_lt_iff_lt_mul (Nat.two_pow_pos d)).2 (by rw [Nat.pow_succ] at h; omega)
  generalize t / 2 ^ d = q at *
  rw [decide_eq_decide]; omega
theorem nb_snoc8 (l : List Nat) (k : Nat) (hk : k < l.length) : nbits (l.take (k + 1)) 0 = 2 * nbits (l.take k) 0 + l[k] := by
  have e : l.take (k + 1) = l.take k ++ [l[k]] := by rw [List.take_add_one]; simp [hk]
  rw [e, nbits_snoc]
end Go.Proofs.YtnpigefbdadjfaaDoor
