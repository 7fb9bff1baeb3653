/- Contracts of bits.OnesCount64, l01Parity and both ParityOf. -/
import Derived.Test.YtnpigefbdadjfaaProg
import Derived.Test.YtnpigefbdadjfaaPl
import Derived.Test.YtnpigefbdadjfaaPop
import Derived.WalkSpells
import Derived.Lib.Hide
namespace Go.Proofs.Ytnpigefbdadjfaa
open Go Go.RowKit
set_option linter.unusedVariables false

theorem u64_and (a b : Nat) (ha : a < 18446744073709551616) : bits .and .u64 (a : Int) (b : Int) = ((a &&& b : Nat) : Int) := by
  have key : (BitVec.ofInt 64 (a : Int) &&& BitVec.ofInt 64 (b : Int)).toNat = a &&& b := by
    rw [BitVec.toNat_and, BitVec.ofInt_natCast, BitVec.ofInt_natCast, BitVec.toNat_ofNat, BitVec.toNat_ofNat, ← Nat.and_mod_two_pow]
    apply Nat.mod_eq_of_lt
    exact Nat.lt_of_le_of_lt Nat.and_le_left (by omega)
  show IntKind.u64.wrap ((BitVec.ofInt 64 (a : Int) &&& BitVec.ofInt 64 (b : Int)).toNat : Nat) = _
  rw [key, IntKind.wrap_u64]
  have : a &&& b ≤ a := Nat.and_le_left
  omega

theorem oc_h1 (x : Nat) (hx : x < 18446744073709551616) : IntKind.u64.wrap (bits BinOp.and IntKind.u64 ((x : Int) / 2) 6148914691236517205 + bits BinOp.and IntKind.u64 (x : Int) 6148914691236517205) = ((s1 8 x : Nat) : Int) := by
  have e1 := u64_and (x / 2) 6148914691236517205 (by omega)
  have e2 := u64_and x 6148914691236517205 hx
  rw [show ((x : Int) / 2) = ((x / 2 : Nat) : Int) from by omega]
  rw [show (6148914691236517205 : Int) = ((6148914691236517205 : Nat) : Int) from rfl, e1, e2, IntKind.wrap_u64]
  have h := s1_8 x
  unfold s1 at *
  rw [show mask 85 8 = 6148914691236517205 from by decide] at *
  omega
theorem oc_h2 (x : Nat) (hx : x < 18446744073709551616) (hy : s2 8 x < 18446744073709551616) : IntKind.u64.wrap (bits BinOp.and IntKind.u64 ((x : Int) / 4) 3689348814741910323 + bits BinOp.and IntKind.u64 (x : Int) 3689348814741910323) = ((s2 8 x : Nat) : Int) := by
  have e1 := u64_and (x / 4) 3689348814741910323 (by omega)
  have e2 := u64_and x 3689348814741910323 hx
  rw [show ((x : Int) / 4) = ((x / 4 : Nat) : Int) from by omega]
  rw [show (3689348814741910323 : Int) = ((3689348814741910323 : Nat) : Int) from rfl, e1, e2, IntKind.wrap_u64]
  unfold s2 at *
  rw [show mask 51 8 = 3689348814741910323 from by decide] at *
  omega
theorem oc_h3 (x : Nat) (hx : x ≤ 4919131752989213764) : bits BinOp.and IntKind.u64 (IntKind.u64.wrap ((x : Int) / 16 + (x : Int))) 1085102592571150095 = ((s3 8 x : Nat) : Int) := by
  have e1 := u64_and (x / 16 + x) 1085102592571150095 (by omega)
  rw [show IntKind.u64.wrap ((x : Int) / 16 + (x : Int)) = ((x / 16 + x : Nat) : Int) from by rw [IntKind.wrap_u64]; omega]
  rw [show (1085102592571150095 : Int) = ((1085102592571150095 : Nat) : Int) from rfl, e1]
  unfold s3
  rw [show mask 15 8 = 1085102592571150095 from by decide]
theorem i64_and127 (n : Int) : bits .and .i64 n 127 = n % 128 := by
  have h1 : (BitVec.ofInt 64 127).toNat = 2 ^ 7 - 1 := by decide
  have key : (BitVec.ofInt 64 n &&& BitVec.ofInt 64 127).toNat = (n % ((2 ^ 64 : Nat) : Int)).toNat % 2 ^ 7 := by
    rw [BitVec.toNat_and, BitVec.toNat_ofInt, h1, Nat.and_two_pow_sub_one_eq_mod]
  show IntKind.i64.wrap ((BitVec.ofInt 64 n &&& BitVec.ofInt 64 127).toNat : Nat) = n % 128
  rw [key, IntKind.wrap_i64]
  omega

theorem oc_last (c : Nat) (hc : c ≤ 1157442765409226768) : bits BinOp.and IntKind.i64 (wrap64 (IntKind.u64.wrap (IntKind.u64.wrap (IntKind.u64.wrap ((c : Int) + (c : Int) / 256) + IntKind.u64.wrap ((c : Int) + (c : Int) / 256) / 65536) + IntKind.u64.wrap (IntKind.u64.wrap ((c : Int) + (c : Int) / 256) + IntKind.u64.wrap ((c : Int) + (c : Int) / 256) / 65536) / 4294967296))) 127 = ((fold3 c % 128 : Nat) : Int) := by
  have h5 : IntKind.u64.wrap ((c : Int) + (c : Int) / 256) = ((c + c / 256 : Nat) : Int) := by rw [IntKind.wrap_u64]; omega
  have hf := fold3_le c hc
  unfold fold3 at *
  rw [h5]
  have hd : c + c / 256 ≤ 1162000000000000000 := by omega
  generalize c + c / 256 = d at *
  clear h5 hc
  have h6 : IntKind.u64.wrap ((d : Int) + (d : Int) / 65536) = ((d + d / 65536 : Nat) : Int) := by rw [IntKind.wrap_u64]; omega
  rw [h6]
  have hg : d + d / 65536 ≤ 1163000000000000000 := by omega
  generalize d + d / 65536 = g at *
  clear h6 hd
  have h7 : IntKind.u64.wrap ((g : Int) + (g : Int) / 4294967296) = ((g + g / 4294967296 : Nat) : Int) := by rw [IntKind.wrap_u64]; omega
  rw [h7, i64_and127]
  generalize g + g / 4294967296 = f at *
  clear h7 hg
  have h8 : wrap64 (f : Int) = (f : Int) := by unfold wrap64; omega
  rw [h8]
  omega
theorem oc_pop (x : Nat) (hx : x < 18446744073709551616) : s3 8 (s2 8 (s1 8 x)) ≤ 1157442765409226768 ∧ fold3 (s3 8 (s2 8 (s1 8 x))) % 128 = pop x := by
  obtain ⟨t1, t2⟩ := tot_eq x hx
  exact ⟨t2, t1⟩

theorem oc64 (x : Nat) (hx : x < 18446744073709551616) (w : World) :
    Calls Try.prog 46 #[.int .u64 x] w fun e w' => e = .returned (.int .i64 (pop x)) ∧ w = w' := by
  have H1 := Lib.hid (oc_h1 x hx)
  have H2 := Lib.hid (oc_h2 (s1 8 x) (s1_8 x) (Nat.lt_of_le_of_lt (s12_8 x) (by decide)))
  have H3 := Lib.hid (oc_h3 (s2 8 (s1 8 x)) (s12_8 x))
  have H4 := Lib.hid (oc_last _ (oc_pop x hx).1)
  have H5 := Lib.hid (oc_pop x hx).2
  generalize s3 8 (s2 8 (s1 8 x)) = c3 at *
  generalize s2 8 (s1 8 x) = c2 at *
  generalize s1 8 x = c1 at *
  generalize pop x = p at *
  go_enter Try.func46, Try.ntmps46
  go_wp2
  go_ret
  refine ⟨ret_int ?_, rfl⟩
  rw [H1.out, H2.out, H3.out, H4.out, H5.out]

theorem i64_and (a b : Nat) (ha : a < 9223372036854775808) : bits .and .i64 (a : Int) (b : Int) = ((a &&& b : Nat) : Int) := by
  have key : (BitVec.ofInt 64 (a : Int) &&& BitVec.ofInt 64 (b : Int)).toNat = a &&& b := by
    rw [BitVec.toNat_and, BitVec.ofInt_natCast, BitVec.ofInt_natCast, BitVec.toNat_ofNat, BitVec.toNat_ofNat, ← Nat.and_mod_two_pow]
    apply Nat.mod_eq_of_lt
    exact Nat.lt_of_le_of_lt Nat.and_le_left (by omega)
  show IntKind.i64.wrap ((BitVec.ofInt 64 (a : Int) &&& BitVec.ofInt 64 (b : Int)).toNat : Nat) = _
  rw [key, IntKind.wrap_i64]
  have : a &&& b ≤ a := Nat.and_le_left
  omega

/-- The parity of the bits that are set in both. -/
def parN (n m : Nat) : Int := ((pop (n &&& m) % 2 : Nat) : Int)

/-- What ParityOf answers. -/
def parOk (n m : Int) : Bool := decide (0 ≤ n ∧ 0 ≤ m)
def parV (n m : Int) : Int := if parOk n m = true then parN n.toNat m.toNat else 0

theorem par_impl (n m : Int) (w : World) (hn : n ≤ 9223372036854775807) :
    Calls Try.prog 16 #[.int .i64 n, .int .i64 m] w fun e w' => e = .returned (.tuple #[.int .i64 (parV n m), .bool (parOk n m)]) ∧ Below w.heap.size w w' := by
  by_cases h : 0 ≤ n ∧ 0 ≤ m
  · have hb : parOk n m = true := decide_eq_true h
    have HV : Hid (parV n m = parN n.toNat m.toNat) := by show _ = _; unfold parV; rw [if_pos hb]
    obtain ⟨h1, h2⟩ := h
    rw [hb]
    generalize parV n m = V at *
    clear hb
    obtain ⟨n, rfl⟩ := Int.eq_ofNat_of_zero_le h1
    obtain ⟨m, rfl⟩ := Int.eq_ofNat_of_zero_le h2
    have hand := i64_and n m (by omega)
    have hle : n &&& m < 9223372036854775808 := Nat.lt_of_le_of_lt Nat.and_le_left (by omega)
    have HV2 : Hid (V = ((pop (n &&& m) % 2 : Nat) : Int)) := HV.out
    generalize n &&& m = r at *
    have hw : IntKind.u64.wrap (r : Int) = (r : Int) := by rw [IntKind.wrap_u64]; omega
    go_enter Try.func16, Try.ntmps16
    go_wp2_with fail
    refine (oc64 r (by omega) _).mono ?_; rintro e w1 ⟨rfl, rfl⟩
    have hp0 : (0 : Int) ≤ (pop r : Int) := by omega
    go_wp2_with fail
    go_ret2
    exact ⟨ret_ib (by rw [HV2.out]; omega) rfl, Below.refl _ _⟩
  · have hb : parOk n m = false := decide_eq_false h
    have HV : Hid (parV n m = 0) := by show _ = _; unfold parV; rw [if_neg (by rw [hb]; decide)]
    rw [hb, HV.out]
    by_cases h1 : n < 0
    · clear h
      go_enter Try.func16, Try.ntmps16
      go_wp2_with fail
      go_ret2
      exact ⟨rfl, Below.refl _ _⟩
    · have h2 : m < 0 := by omega
      clear h
      go_enter Try.func16, Try.ntmps16
      go_wp2_with fail
      go_ret2
      exact ⟨rfl, Below.refl _ _⟩
theorem i64_bd {x : Int} (h : (Lit.int .i64 x).wf = true) : -9223372036854775808 ≤ x ∧ x ≤ 9223372036854775807 := by
  simp [Lit.wf, IntKind.min, IntKind.max, IntKind.signed, IntKind.bits] at h
  omega
end Go.Proofs.Ytnpigefbdadjfaa
