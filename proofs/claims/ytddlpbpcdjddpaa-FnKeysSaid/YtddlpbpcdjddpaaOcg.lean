/- Contracts of bits.OnesCount16 and bits.RotateLeft16. -/
import Derived.Test.YtddlpbpcdjddpaaProg
import Derived.Test.YtddlpbpcdjddpaaPl
import Derived.Test.YtddlpbpcdjddpaaRgP
import Derived.WalkSpells
import Derived.Lib.Hide
import Derived.Deep.QuietTactic
import Derived.BigQuiet
import Derived.BigRegion
namespace Go.Proofs.Ytddlpbpcdjddpaa
open Go Go.RowKit
set_option linter.unusedVariables false
theorem u16_and (a b : Nat) (ha : a < 65536) : bits .and .u16 (a : Int) (b : Int) = ((a &&& b : Nat) : Int) := by
  have key : (BitVec.ofInt 16 (a : Int) &&& BitVec.ofInt 16 (b : Int)).toNat = a &&& b := by
    rw [BitVec.toNat_and, BitVec.ofInt_natCast, BitVec.ofInt_natCast, BitVec.toNat_ofNat, BitVec.toNat_ofNat, ← Nat.and_mod_two_pow]
    apply Nat.mod_eq_of_lt
    exact Nat.lt_of_le_of_lt Nat.and_le_left (by omega)
  show IntKind.u16.wrap ((BitVec.ofInt 16 (a : Int) &&& BitVec.ofInt 16 (b : Int)).toNat : Nat) = _
  rw [key]
  have : a &&& b ≤ a := Nat.and_le_left
  simp [IntKind.wrap, IntKind.signed, IntKind.bits]
  omega
theorem oc_key (A : ByteArray) (hs : A.size = 256) (hA : ∀ i : Fin 256, (A[i.val]'(by rw [hs]; exact i.2)).toNat = pop i.val) (x : Nat) (hx : x < 65536) (j : Nat) (hj : j = x % 256) (h1 : x / 256 < A.size) (h2 : j < A.size) : ((A[x / 256].toNat : Int) + (A[j].toNat : Int)) % 256 = (pop x : Int) := by
  have e1 := hA ⟨x / 256, by omega⟩
  have e2 := hA ⟨j, by omega⟩
  simp only at e1 e2
  rw [e1, e2, pop_split x, hj]
  have := pop_byte (x % 256) (by omega)
  have := pop_byte (x / 256) (by omega)
  omega
set_option maxRecDepth 100000 in
theorem oc16 (x : Nat) (hx : x < 65536) (w : World) :
    Calls Try.prog 86 #[.int .u16 x] w fun e w' => e = .returned (.int .i64 (pop x)) ∧ ∃ q, w' = w.drewN q := by
  have ha0 : (0 : Int) ≤ (x : Int) / 256 := by omega
  have ha1 : (x : Int) / 256 < 256 := by omega
  have hand := u16_and x 255 hx
  have hb0 : (0 : Int) ≤ bits .and .u16 (x : Int) 255 := by rw [show (255 : Int) = ((255 : Nat) : Int) from rfl, hand]; omega
  have hb1 : bits .and .u16 (x : Int) 255 < 256 := by
    rw [show (255 : Int) = ((255 : Nat) : Int) from rfl, hand]
    have : x &&& 255 ≤ 255 := Nat.and_le_right
    omega
  go_enter Try.func86, Try.ntmps86
  go_wp2_with fail
  go_region
  all_goals go_wp2_with fail
  all_goals go_ret
  exact ⟨ret_int (oc_key _ rfl (by decide +kernel) x hx _ (by rw [show (255 : Int) = ((255 : Nat) : Int) from rfl, hand]; exact Nat.and_two_pow_sub_one_eq_mod x 8) _ _), 1, rfl⟩
theorem u64_and15 (k : Int) : bits .and .u64 (IntKind.u64.wrap k) 15 = ((k % 16).toNat : Int) := by
  obtain ⟨m, hm⟩ : ∃ m : Nat, IntKind.u64.wrap k = (m : Int) ∧ m < 18446744073709551616 ∧ (m : Int) % 16 = k % 16 := by
    refine ⟨(IntKind.u64.wrap k).toNat, ?_⟩
    rw [IntKind.wrap_u64]; omega
  rw [hm.1]
  have key : (BitVec.ofInt 64 (m : Int) &&& BitVec.ofInt 64 15).toNat = m % 16 := by
    rw [BitVec.toNat_and, BitVec.ofInt_natCast, BitVec.toNat_ofNat, show (BitVec.ofInt 64 15).toNat = 2 ^ 4 - 1 from by decide, Nat.and_two_pow_sub_one_eq_mod]
    omega
  show IntKind.u64.wrap ((BitVec.ofInt 64 (m : Int) &&& BitVec.ofInt 64 15).toNat : Nat) = _
  rw [key, IntKind.wrap_u64]
  omega
theorem u16_or (a b : Nat) (ha : a < 65536) (hb : b < 65536) : bits .or .u16 (a : Int) (b : Int) = ((a ||| b : Nat) : Int) := by
  have hlt : a ||| b < 65536 := Nat.or_lt_two_pow (n := 16) ha hb
  have key : (BitVec.ofInt 16 (a : Int) ||| BitVec.ofInt 16 (b : Int)).toNat = a ||| b := by
    rw [BitVec.toNat_or, BitVec.ofInt_natCast, BitVec.ofInt_natCast, BitVec.toNat_ofNat, BitVec.toNat_ofNat, Nat.mod_eq_of_lt (show a < 2 ^ 16 from ha), Nat.mod_eq_of_lt (show b < 2 ^ 16 from hb)]
  show IntKind.u16.wrap ((BitVec.ofInt 16 (a : Int) ||| BitVec.ofInt 16 (b : Int)).toNat : Nat) = _
  rw [key]
  simp [IntKind.wrap, IntKind.signed, IntKind.bits]
  omega
theorem rot_key (x n : Nat) (hx : x < 65536) (hn : n < 16) : bits .or .u16 (IntKind.u16.wrap ((x : Int) * 2 ^ (n : Int).toNat)) ((x : Int) / 2 ^ ((16 : Int) - (n : Int)).toNat) = ((rot x n : Nat) : Int) := by
  rw [show (n : Int).toNat = n from by omega, show ((16 : Int) - (n : Int)).toNat = 16 - n from by omega]
  have e1 : IntKind.u16.wrap ((x : Int) * 2 ^ n) = ((x * 2 ^ n % 65536 : Nat) : Int) := by
    have : ((x : Int) * 2 ^ n) = ((x * 2 ^ n : Nat) : Int) := by push_cast; rfl
    rw [this]
    simp [IntKind.wrap, IntKind.signed, IntKind.bits]
  have e2 : ((x : Int) / 2 ^ (16 - n)) = ((x / 2 ^ (16 - n) : Nat) : Int) := by push_cast; rfl
  rw [e1, e2, u16_or _ _ (Nat.mod_lt _ (by omega)) (Nat.lt_of_le_of_lt (Nat.div_le_self _ _) hx)]
  unfold rot
  rw [Nat.mod_eq_of_lt hn]
set_option maxRecDepth 100000 in
theorem rot16 (x : Nat) (k : Int) (hx : x < 65536) (w : World) :
    Calls Try.prog 79 #[.int .u16 x, .int .i64 k] w fun e w' => e = .returned (.int .u16 (rot x (k % 16).toNat)) ∧ w = w' := by
  have HA := Lib.hid (u64_and15 k)
  have h0 : (0 : Int) ≤ bits .and .u64 (IntKind.u64.wrap k) 15 := by rw [HA.out]; omega
  have hn : (k % 16).toNat < 16 := by omega
  have HK := Lib.hid (rot_key x (k % 16).toNat hx hn)
  generalize (k % 16).toNat = n at *
  have hw : IntKind.u64.wrap (16 - bits .and .u64 (IntKind.u64.wrap k) 15) = 16 - bits .and .u64 (IntKind.u64.wrap k) 15 := by rw [HA.out, IntKind.wrap_u64]; omega
  have h1 : (0 : Int) ≤ 16 - bits .and .u64 (IntKind.u64.wrap k) 15 := by rw [HA.out]; omega
  go_enter Try.func79, Try.ntmps79
  go_wp2_with fail
  go_ret
  refine ⟨ret_int ?_, rfl⟩
  rw [HA.out] at *
  exact HK.out
end Go.Proofs.Ytddlpbpcdjddpaa
