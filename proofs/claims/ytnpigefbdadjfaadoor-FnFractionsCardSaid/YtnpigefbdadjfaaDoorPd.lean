/- Plain facts: what decimal texts are read as. -/
import Derived.Test.YtnpigefbdadjfaaDoorProg
import Derived.Lib.ItoaLen
import Derived.Lib.ParseIntBCases
namespace Go.Proofs.YtnpigefbdadjfaaDoor
open Go
set_option linter.unusedVariables false

def stepV (n : Nat) (c : UInt8) : Nat := 10 * n + (c.toNat - 48)
/-- The number that digits spell. -/
def val (l : List UInt8) : Nat := l.foldl stepV 0
def isDig (c : UInt8) : Prop := 48 ≤ c.toNat ∧ c.toNat ≤ 57
theorem val_snoc (l : List UInt8) (c : UInt8) : val (l ++ [c]) = 10 * val l + (c.toNat - 48) := by simp [val, List.foldl_append, stepV]
theorem stepV_ge : ∀ (l : List UInt8) (acc : Nat), acc ≤ l.foldl stepV acc
  | [], acc => Nat.le_refl _
  | c :: l, acc => by
    have := stepV_ge l (stepV acc c)
    simp only [List.foldl_cons]
    unfold stepV at *; omega
theorem val_take (l : List UInt8) (k : Nat) (h : k < l.length) : 10 * val (l.take k) ≤ val l := by
  have e : l = l.take k ++ (l[k] :: l.drop (k + 1)) := by
    rw [List.getElem_cons_drop, List.take_append_drop]
  have : val l = (l[k] :: l.drop (k + 1)).foldl stepV (val (l.take k)) := by
    conv => lhs; rw [e]
    unfold val; rw [List.foldl_append]
  rw [this, List.foldl_cons]
  have := stepV_ge (l.drop (k + 1)) (stepV (val (l.take k)) l[k])
  unfold stepV at *; omega
theorem val_dec (u : Nat) : val (Lib.decDigits u) = u := by
  induction u using Nat.strongRecOn with
  | _ u ih =>
    rw [Lib.decDigits]
    by_cases h : u < 10
    · rw [dif_pos h]
      have : (UInt8.ofNat (48 + u)).toNat = 48 + u := by rw [UInt8.toNat_ofNat']; omega
      show 10 * 0 + ((UInt8.ofNat (48 + u)).toNat - 48) = u
      omega
    · rw [dif_neg h, val_snoc, ih (u / 10) (by omega)]
      have : (UInt8.ofNat (48 + u % 10)).toNat = 48 + u % 10 := by rw [UInt8.toNat_ofNat']; omega
      omega
theorem dig_dec (u : Nat) : ∀ c ∈ Lib.decDigits u, isDig c := by
  induction u using Nat.strongRecOn with
  | _ u ih =>
    rw [Lib.decDigits]
    by_cases h : u < 10
    · rw [dif_pos h]
      intro c hc
      rw [List.mem_singleton] at hc; subst hc
      have : (UInt8.ofNat (48 + u)).toNat = 48 + u := by rw [UInt8.toNat_ofNat']; omega
      unfold isDig; omega
    · rw [dif_neg h]
      intro c hc
      rcases List.mem_append.1 hc with hc | hc
      · exact ih (u / 10) (by omega) c hc
      · rw [List.mem_singleton] at hc; subst hc
        have : (UInt8.ofNat (48 + u % 10)).toNat = 48 + u % 10 := by rw [UInt8.toNat_ofNat']; omega
        unfold isDig; omega
theorem nDigits_le : ∀ (k u : Nat), u < 10 ^ (k + 1) → Lib.nDigits u ≤ k + 1
  | 0, u, h => by rw [Lib.nDigits_small (by simpa using h)]; exact Nat.le_refl _
  | k + 1, u, h => by
    by_cases h9 : u < 10
    · rw [Lib.nDigits_small h9]; omega
    · rw [Lib.nDigits_big h9]
      have := nDigits_le k (u / 10) (by rw [Nat.pow_succ] at h; omega)
      omega
theorem dec_len (u : Nat) (h : u ≤ 1000000000000000000) : 1 ≤ (Lib.decDigits u).length ∧ (Lib.decDigits u).length ≤ 19 := by
  rw [Lib.decDigits_length]
  exact ⟨Lib.nDigits_pos u, nDigits_le 18 u (by omega)⟩

/-- Digits are read. -/
theorem parse_digits (M : Nat) (hM : M ≤ 18446744073709551615) : ∀ (l : List UInt8) (acc : Nat), (∀ c ∈ l, isDig c) → l.foldl stepV acc ≤ M → Lib.parseUintM M acc l = .ok (l.foldl stepV acc)
  | [], acc, _, _ => rfl
  | c :: l, acc, hd, h => by
    have hc := hd c (List.mem_cons_self ..)
    unfold isDig at hc
    simp only [List.foldl_cons] at h
    have hge := stepV_ge l (stepV acc c)
    have e : acc * 10 + (c.toNat - 48) = stepV acc c := by unfold stepV; omega
    have hs : stepV acc c = 10 * acc + (c.toNat - 48) := rfl
    rw [Lib.parseUintM, if_pos hc, if_neg (by omega), if_neg (by omega), e]
    exact parse_digits M hM l _ (fun d hd' => hd d (List.mem_cons_of_mem _ hd')) h
theorem parse_dec (u : Nat) (h : u ≤ 18446744073709551615) : Lib.parseUintB 64 (Lib.decDigits u) = .ok u := by
  have hv := val_dec u
  unfold Lib.parseUintB
  rw [if_neg (by intro e; have := Lib.decDigits_length u; rw [e] at this; have := Lib.nDigits_pos u; simp at *; omega)]
  rw [parse_digits _ (by decide) _ 0 (dig_dec u) (by show val _ ≤ _; rw [hv]; omega)]
  show Lib.NumEnd.ok (val _) = _
  rw [hv]
theorem parse_itoa (v : Int) (h0 : -9223372036854775808 ≤ v) (h1 : v ≤ 9223372036854775807) : Lib.parseIntB 64 (Lib.itoa v) = .ok v := by
  by_cases hn : v < 0
  · obtain ⟨u, hu⟩ := Int.eq_ofNat_of_zero_le (show 0 ≤ -v by omega)
    obtain rfl : v = -(u : Int) := by omega
    rw [Lib.itoa_neg u (by omega), Lib.parseIntB_minus, parse_dec u (by omega)]
    simp only [Lib.signedC]
    rw [if_neg (by omega)]
  · obtain ⟨u, rfl⟩ := Int.eq_ofNat_of_zero_le (show 0 ≤ v by omega)
    rw [Lib.itoa_nonneg u]
    have hp := parse_dec u (by omega)
    have hd := dig_dec u
    cases hl : Lib.decDigits u with
    | nil => have := Lib.decDigits_length u; rw [hl] at this; have := Lib.nDigits_pos u; simp at *; omega
    | cons c r =>
      rw [hl] at hp hd
      have hc := hd c (List.mem_cons_self ..)
      unfold isDig at hc
      rw [Lib.parseIntB_plain 64 c r (by omega) (by omega), hp]
      simp only [Lib.signlessC]
      rw [if_neg (by omega)]
end Go.Proofs.YtnpigefbdadjfaaDoor
