/- Contract of the model's l01Great. -/
import Derived.Test.YtnpigefbdadjfaaDoorWDec2
import Derived.Test.YtnpigefbdadjfaaDoorPd
import Derived.Test.YtnpigefbdadjfaaDoorBtw
import Derived.Laws.StructEq
namespace Go.Proofs.YtnpigefbdadjfaaDoor
open Go Go.RowKit
set_option linter.unusedVariables false

/-- A text with a sign, or without one. -/
def Lnk (neg : Bool) (l t : List UInt8) : Prop := if neg then l = 45 :: t else l = t ∧ t.head? ≠ some 45
theorem lnk_dec {neg : Bool} {l t : List UInt8} {v : Int} (h : Lnk neg l t) (hv : Lib.itoa v = l) (h0 : -1000000000000000000 ≤ v) (h1 : v ≤ 1000000000000000000) :
    ∃ u : Nat, u ≤ 1000000000000000000 ∧ t = Lib.decDigits u ∧ v = if neg then -(u : Int) else u := by
  by_cases hn : v < 0
  · obtain ⟨u, hu⟩ := Int.eq_ofNat_of_zero_le (show 0 ≤ -v by omega)
    obtain rfl : v = -(u : Int) := by omega
    rw [Lib.itoa_neg u (by omega)] at hv
    cases neg
    · obtain ⟨e, hh⟩ := h
      subst e
      rw [← hv] at hh
      exact absurd rfl hh
    · have e : l = 45 :: t := h
      rw [e] at hv
      injection hv with _ hv
      exact ⟨u, by omega, hv.symm, rfl⟩
  · obtain ⟨u, rfl⟩ := Int.eq_ofNat_of_zero_le (show 0 ≤ v by omega)
    rw [Lib.itoa_nonneg u] at hv
    cases neg
    · obtain ⟨e, hh⟩ := h
      exact ⟨u, by omega, by rw [hv, e], rfl⟩
    · have e : l = 45 :: t := h
      have hd := dig_dec u
      rw [hv, e] at hd
      have := hd 45 (List.mem_cons_self ..)
      unfold isDig at this
      have e : (45 : UInt8).toNat = 45 := rfl
      omega
/-- What is asked of l01Great's answer. -/
def GR (l : List UInt8) (n : Int) (ok : Bool) : Prop :=
  (ok = true → Lib.itoa n = l ∧ -1000000000000000000 ≤ n ∧ n ≤ 1000000000000000000) ∧ (∀ v : Int, -1000000000000000000 ≤ v → v ≤ 1000000000000000000 → Lib.itoa v = l → ok = true ∧ n = v)
theorem GR.no {l : List UInt8} (n : Int) (h : ∀ v : Int, -1000000000000000000 ≤ v → v ≤ 1000000000000000000 → Lib.itoa v = l → False) : GR l n false :=
  ⟨fun e => by (cases e), fun v a b c => (h v a b c).elim⟩
theorem no_len {neg : Bool} {l t : List UInt8} (h : Lnk neg l t) (hl : ¬ (1 ≤ t.length ∧ t.length ≤ 19)) : GR l 0 false :=
  GR.no _ fun v a b c => by
    obtain ⟨u, hu, rfl, -⟩ := lnk_dec h c a b
    exact hl (dec_len u hu)
theorem no_dig {neg : Bool} {l t : List UInt8} (h : Lnk neg l t) (k : Nat) (hk : k < t.length) (hd : ¬ isDig t[k]) : GR l 0 false :=
  GR.no _ fun v a b c => by
    obtain ⟨u, hu, rfl, -⟩ := lnk_dec h c a b
    exact hd (dig_dec u _ (List.getElem_mem hk))
theorem no_big {neg : Bool} {l t : List UInt8} (h : Lnk neg l t) (k : Nat) (hk : k < t.length) (hb : 100000000000000000 < val (t.take k)) : GR l 0 false :=
  GR.no _ fun v a b c => by
    obtain ⟨u, hu, rfl, -⟩ := lnk_dec h c a b
    have := val_take _ k hk
    rw [val_dec] at this
    omega
theorem at_end {neg : Bool} {l t : List UInt8} (h : Lnk neg l t) {n : Int} (hn : n = if neg then -(val t : Int) else val t) : ∀ v : Int, -1000000000000000000 ≤ v → v ≤ 1000000000000000000 → Lib.itoa v = l → n = v := by
  intro v a b c
  obtain ⟨u, hu, rfl, rfl⟩ := lnk_dec h c a b
  rw [hn, val_dec]
theorem gr_out {l : List UInt8} {n : Int} (h : ∀ v : Int, -1000000000000000000 ≤ v → v ≤ 1000000000000000000 → Lib.itoa v = l → n = v) (hr : ¬ (-1000000000000000000 ≤ n ∧ n ≤ 1000000000000000000)) : GR l n false :=
  GR.no _ fun v a b c => by have := h v a b c; omega
theorem bytes_eq {a b : ByteArray} (h : (a == b) = true) : a = b := by
  cases a with | mk a => cases b with | mk b =>
  have h2 : (a == b) = true := h
  exact congrArg ByteArray.mk (eq_of_beq h2)
theorem bytes_beq (a : ByteArray) : (a == a) = true := by
  cases a with | mk a =>
  have h2 : (a == a) = true := beq_self_eq_true a
  exact h2
theorem gr_in {s : ByteArray} {n : Int} (h : ∀ v : Int, -1000000000000000000 ≤ v → v ≤ 1000000000000000000 → Lib.itoa v = s.data.toList → n = v) (h0 : -1000000000000000000 ≤ n) (h1 : n ≤ 1000000000000000000) : GR s.data.toList n ((⟨(Lib.itoa n).toArray⟩ : ByteArray) == s) := by
  refine ⟨fun e => ⟨?_, h0, h1⟩, fun v a b c => ?_⟩
  · have := bytes_eq e
    rw [← this]
  · have hv := h v a b c
    refine ⟨?_, hv⟩
    subst hv
    rw [c]
    have : (⟨s.data.toList.toArray⟩ : ByteArray) = s := by cases s; simp
    rw [this]
    exact bytes_beq s

end Go.Proofs.YtnpigefbdadjfaaDoor
