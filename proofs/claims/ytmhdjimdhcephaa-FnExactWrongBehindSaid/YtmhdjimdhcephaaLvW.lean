/- Plain: how many bits are wrong behind a wrong level. -/
import Derived.Test.YtmhdjimdhcephaaLvN
import Derived.Test.YtmhdjimdhcephaaXorI
import Derived.Test.YtmhdjimdhcephaaOnes
namespace Go.Proofs.Ytmhdjimdhcephaa
open Go Go.RowKit
set_option linter.unusedVariables false

/-- At how many of the first k places bits differ. -/
def difN (a b : List UInt8) : Nat → Int
  | 0 => 0
  | k + 1 => difN a b k + (if a[k]? = b[k]? then 0 else 1)
theorem difN_bd (a b : List UInt8) : ∀ k, 0 ≤ difN a b k ∧ difN a b k ≤ k
  | 0 => by simp [difN]
  | k + 1 => by
    have := difN_bd a b k
    rw [difN]
    split <;> omega
theorem ones_dif (a b : List UInt8) : ∀ k, onesL (xorB a b k) = difN a b k
  | 0 => rfl
  | k + 1 => by
    rw [xorB_succ, difN]
    by_cases h : a[k]? = b[k]?
    · rw [if_pos h, if_pos h, onesL_snoc _ _ (by decide), ones_dif a b k]; rfl
    · rw [if_neg h, if_neg h, onesL_snoc _ _ (by decide), ones_dif a b k]; rfl
theorem xorB_bits (a b : List UInt8) : ∀ k, inR 48 49 (xorB a b k) = true
  | 0 => rfl
  | k + 1 => by
    rw [xorB_succ, inR_append, xorB_bits a b k]
    split <;> decide
theorem xorB_isB (a b : List UInt8) (k : Nat) (h : k ≤ 400) : isB (xorB a b k) = true := by
  unfold isB
  rw [xorB_bits, decide_eq_true (by rw [xorB_length]; exact h)]; rfl
theorem rdK_bits (κ : Nat) (l : List Int) (T : Nat) : ∀ k, inR 48 49 (rdK κ l T k).1 = true
  | 0 => rfl
  | k + 1 => by
    rw [rdK, stepR, inR_append, rdK_bits κ l T k]
    split <;> decide
theorem rdK_isB (κ : Nat) (l : List Int) (T k : Nat) (h : k ≤ 400) : isB (rdK κ l T k).1 = true := by
  unfold isB
  rw [rdK_bits, decide_eq_true (by rw [rdK_len]; exact h)]; rfl
/-- Whether a level can be wrong so, and how many bits are. -/
def wbOk (kind : Int) (s : List UInt8) (place level : Int) : Bool := loOk kind s && (rgB 0 ((loV kind s).length - 1) place && (rgB (-1) 1 level && !((loV kind s).getD place.toNat 0 == level)))
def wbV (kind : Int) (s : List UInt8) (place level : Int) : Int := if wbOk kind s place level then difN s (rdV kind ((loV kind s).set place.toNat level)) s.length else 0
theorem wb_no {kind : Int} {s : List UInt8} {place level : Int} (h : loOk kind s = false ∨ rgB 0 ((loV kind s).length - 1) place = false ∨ rgB (-1) 1 level = false ∨ (loV kind s).getD place.toNat 0 = level) : wbOk kind s place level = false ∧ wbV kind s place level = 0 := by
  have e : wbOk kind s place level = false := by
    unfold wbOk
    rcases h with h | h | h | h
    · rw [h]; rfl
    · rw [h]; simp
    · rw [h]; simp
    · rw [h]; simp
  exact ⟨e, by unfold wbV; rw [e]; rfl⟩
theorem wb_yes {kind : Int} {s : List UInt8} {place level : Int} (h1 : loOk kind s = true) (h2 : rgB 0 ((loV kind s).length - 1) place = true) (h3 : rgB (-1) 1 level = true) (h4 : ¬ (loV kind s).getD place.toNat 0 = level) : wbOk kind s place level = true ∧ wbV kind s place level = difN s (rdV kind ((loV kind s).set place.toNat level)) s.length := by
  have e : wbOk kind s place level = true := by
    unfold wbOk
    rw [h1, h2, h3]
    simpa using h4
  exact ⟨e, by unfold wbV; rw [e]; rfl⟩
theorem lo_parts {kind : Int} {s : List UInt8} (h : loOk kind s = true) : ∃ κ : Nat, kind = κ ∧ κ ≤ 5 ∧ kind.toNat = κ ∧ kdB kind = true ∧ isB s = true ∧ s.length ≤ 400 ∧ loV kind s = lvL κ s s.length ∧ (loV kind s).length = s.length * wdK κ := by
  unfold loOk at h
  obtain ⟨h1, h2⟩ := Bool.and_eq_true_iff.1 h
  have hB : isB s = true := h2
  obtain ⟨κ, rfl, hκ, hn⟩ := kd_nat h1
  have e := (lo_yes h1 hB).2
  rw [hn] at e
  exact ⟨κ, rfl, hκ, hn, h1, hB, of_decide_eq_true (Bool.and_eq_true_iff.1 h2).1, e, by rw [e, lvL_len]⟩
/-- The wrong levels can be read. -/
theorem wb_read {kind : Int} {s : List UInt8} {p : Nat} {level : Int} (h : loOk kind s = true) (hl : -1 ≤ level ∧ level ≤ 1) : rdOk kind ((loV kind s).set p level) = true ∧ ∃ κ T, rdV kind ((loV kind s).set p level) = (rdK κ ((loV kind s).set p level) T s.length).1 := by
  obtain ⟨κ, rfl, hκ, hn, hk, hB, hs, e, hlen⟩ := lo_parts h
  have hwd := wdK_bd κ
  have h8 : (loV (κ : Int) s).length ≤ 800 := loV_len _ _
  have hlv : lvB ((loV (κ : Int) s).set p level) = true := by
    refine lvB_mk (by rw [List.length_set]; exact h8) fun x hx => ?_
    rcases List.mem_or_eq_of_mem_set hx with h | h
    · rw [e] at h; exact tri_bd (lvL_tri κ s _ x h)
    · rw [h]; exact hl
  have hm : ((loV (κ : Int) s).set p level).length % wdK (κ : Int).toNat = 0 := by
    rw [List.length_set, hlen, hn]; exact Nat.mul_mod_left _ _
  have hr : rmB (κ : Int) ((loV (κ : Int) s).set p level) = true := by
    unfold rmB
    rw [hk, hlv, List.length_set, hlen, hn, decide_eq_true (Nat.mul_le_mul_right _ hs)]; rfl
  obtain ⟨r1, r2⟩ := rd_yes hr hm
  refine ⟨r1, κ, wdK κ, ?_⟩
  rw [r2, List.length_set, hlen, hn, Nat.mul_div_cancel _ (by omega)]
end Go.Proofs.Ytmhdjimdhcephaa
