/- Plain facts on special bytes and on escaping, without the program. -/
import Derived.Test.YtddlpbpcdjddpaaPl
namespace Go.Proofs.Ytddlpbpcdjddpaa
set_option linter.unusedVariables false
open Go Go.RowKit

/-- The exclusive or of a byte and 32. -/
def x32 (b : Int) : Int := bits .xor .i64 b 32
theorem x32_all : ∀ n : Fin 256, (0 ≤ x32 (n.val : Int) ∧ x32 (n.val : Int) ≤ 255) ∧ x32 (x32 (n.val : Int)) = (n.val : Int) := by decide +kernel
theorem x32_byte {b : Int} (h : 0 ≤ b ∧ b ≤ 255) : (0 ≤ x32 b ∧ x32 b ≤ 255) ∧ x32 (x32 b) = b := by
  have := x32_all ⟨b.toNat, by omega⟩
  simpa [show (b.toNat : Int) = b from by omega] using this
theorem x32_esc : x32 125 = 93 := by decide +kernel

/-- At most so many numbers, and they are bytes. -/
def byR (l : List Int) : Bool := l.all fun n => decide (0 ≤ n ∧ n ≤ 255)
def byOk' (most : Nat) (l : List Int) : Bool := decide (l.length ≤ most) && byR l
theorem byR_at {l : List Int} (h : byR l = true) (k : Nat) (hk : k < l.length) : 0 ≤ l[k] ∧ l[k] ≤ 255 := by
  have := List.all_eq_true.1 h l[k] (List.getElem_mem hk)
  exact of_decide_eq_true this
theorem byR_bad {l : List Int} (k : Nat) (hk : k < l.length) (h : ¬ (0 ≤ l[k] ∧ l[k] ≤ 255)) : byR l = false := by
  cases e : byR l
  · rfl
  · exact absurd (byR_at e k hk) h
theorem byR_upto {l : List Int} (h : ∀ k (hk : k < l.length), 0 ≤ l[k] ∧ l[k] ≤ 255) : byR l = true := by
  unfold byR
  rw [List.all_eq_true]
  intro x hx
  obtain ⟨k, hk, rfl⟩ := List.getElem_of_mem hx
  exact decide_eq_true (h k hk)
theorem byR_mem {l : List Int} (h : byR l = true) {x : Int} (hx : x ∈ l) : 0 ≤ x ∧ x ≤ 255 := of_decide_eq_true (List.all_eq_true.1 h x hx)

/-- Each number is greater than the one before it. -/
def inc (l : List Int) : Bool := (List.range l.length).all fun j => j == 0 || decide (l.getD (j - 1) 0 < l.getD j 0)
theorem inc_at {l : List Int} (h : inc l = true) (k : Nat) (hk : k < l.length) (h0 : 0 < k) : l[k - 1]'(by omega) < l[k] := by
  have := List.all_eq_true.1 h k (List.mem_range.2 hk)
  rw [show (k == 0) = false from by simp; omega, Bool.false_or] at this
  have := of_decide_eq_true this
  simpa [List.getD, List.getElem?_eq_getElem hk, List.getElem?_eq_getElem (show k - 1 < l.length by omega)] using this
theorem inc_bad {l : List Int} (k : Nat) (hk : k < l.length) (h0 : 0 < k) (h : ¬ l[k - 1]'(by omega) < l[k]) : inc l = false := by
  cases e : inc l
  · rfl
  · exact absurd (inc_at e k hk h0) h
theorem inc_upto {l : List Int} (h : ∀ k (hk : k < l.length), (h0 : 0 < k) → l[k - 1]'(by omega) < l[k]) : inc l = true := by
  unfold inc
  rw [List.all_eq_true]
  intro k hk
  have hk := List.mem_range.1 hk
  by_cases h0 : k = 0
  · simp [h0]
  · have := h k hk (by omega)
    rw [show (k == 0) = false from by simp; omega, Bool.false_or]
    apply decide_eq_true
    simpa [List.getD, List.getElem?_eq_getElem hk, List.getElem?_eq_getElem (show k - 1 < l.length by omega)] using this

/-- No number's exclusive or with 32 is among them. -/
def noX (l : List Int) : Bool := l.all fun b => ! l.contains (x32 b)
theorem noX_at {l : List Int} (h : noX l = true) (k : Nat) (hk : k < l.length) : l.contains (x32 l[k]) = false := by
  have := List.all_eq_true.1 h l[k] (List.getElem_mem hk)
  simpa using this
theorem noX_bad {l : List Int} (k : Nat) (hk : k < l.length) (h : l.contains (x32 l[k]) = true) : noX l = false := by
  cases e : noX l
  · rfl
  · rw [noX_at e k hk] at h; cases h
theorem noX_upto {l : List Int} (h : ∀ k (hk : k < l.length), l.contains (x32 l[k]) = false) : noX l = true := by
  unfold noX
  rw [List.all_eq_true]
  intro x hx
  obtain ⟨k, hk, rfl⟩ := List.getElem_of_mem hx
  rw [h k hk]; rfl
/-- Special bytes. -/
def spOk (l : List Int) : Bool := (decide (l.length ≤ 8) && (inc l && byR l)) && (l.contains 125 && noX l)
theorem has_pos {l : List Int} {x : Int} (h : l.contains x = true) : 0 < l.length := by
  cases l with
  | nil => simp at h
  | cons y l => simp

/-- Escaped bytes. -/
def esc (sp : List Int) (b : Int) : List Int := if sp.contains b then [125, x32 b] else [b]
def esF (sp l : List Int) : List Int := l.flatMap (esc sp)
theorem esF_nil (sp : List Int) : esF sp [] = [] := rfl
theorem esF_append (sp l m : List Int) : esF sp (l ++ m) = esF sp l ++ esF sp m := by simp [esF]
theorem esF_one (sp : List Int) (b : Int) : esF sp [b] = esc sp b := by simp [esF]
theorem esF_snoc (sp l : List Int) (b : Int) : esF sp (l ++ [b]) = esF sp l ++ esc sp b := by rw [esF_append, esF_one]
theorem esF_take (sp l : List Int) (k : Nat) (h : k < l.length) : esF sp (l.take (k + 1)) = esF sp (l.take k) ++ esc sp l[k] := by
  rw [List.take_succ_eq_append_getElem h, esF_snoc]
theorem esc_len (sp : List Int) (b : Int) : 1 ≤ (esc sp b).length ∧ (esc sp b).length ≤ 2 := by unfold esc; split <;> simp
theorem esF_len (sp l : List Int) : l.length ≤ (esF sp l).length ∧ (esF sp l).length ≤ 2 * l.length := by
  induction l with
  | nil => simp [esF]
  | cons b l ih =>
    rw [show b :: l = [b] ++ l from rfl, esF_append, esF_one]
    have := esc_len sp b
    simp only [List.length_append, List.length_cons, List.length_nil]
    omega

/-- What the model reads: a changed byte behind each 125 that is not the last one. -/
def ueF : List Int → List Int
  | [] => []
  | [b] => [b]
  | b :: c :: l => if b = 125 then x32 c :: ueF l else b :: ueF (c :: l)
theorem ueF_plain {b : Int} (h : b ≠ 125) (l : List Int) : ueF (b :: l) = b :: ueF l := by
  cases l with
  | nil => simp [ueF]
  | cons c l => rw [ueF, if_neg h]
theorem ueF_esc (c : Int) (l : List Int) : ueF (125 :: c :: l) = x32 c :: ueF l := by rw [ueF, if_pos rfl]
theorem ueF_end : ueF [125] = [125] := rfl
theorem ueF_len : ∀ l : List Int, (ueF l).length ≤ l.length
  | [] => by simp [ueF]
  | [b] => by simp [ueF]
  | b :: c :: l => by
    have h1 := ueF_len l
    have h2 := ueF_len (c :: l)
    rw [ueF]
    split <;> simp at * <;> omega
/-- Bytes are escaped. -/
def ueOk (sp l : List Int) : Bool := decide (esF sp (ueF l) = l)
/-- The program reads: whether what is left is escaped, and what it is. -/
theorem ueOk_plain {sp : List Int} {b : Int} (h : b ≠ 125) (hs : sp.contains b = false) (l : List Int) : ueOk sp (b :: l) = ueOk sp l := by
  unfold ueOk
  rw [ueF_plain h, show b :: ueF l = [b] ++ ueF l from rfl, esF_append, esF_one, esc, if_neg (by rw [hs]; decide)]
  simp
theorem ueOk_special {sp : List Int} {b : Int} (h : b ≠ 125) (hs : sp.contains b = true) (l : List Int) : ueOk sp (b :: l) = false := by
  unfold ueOk
  rw [ueF_plain h, show b :: ueF l = [b] ++ ueF l from rfl, esF_append, esF_one, esc, if_pos hs]
  apply decide_eq_false
  intro e
  simp at e
  exact h e.1.symm
theorem ueOk_end {sp : List Int} (hs : sp.contains 125 = true) : ueOk sp [125] = false := by
  unfold ueOk
  rw [ueF_end, esF_one, esc, if_pos hs]
  simp
theorem ueOk_esc {sp : List Int} {c : Int} (hc : 0 ≤ c ∧ c ≤ 255) (hs : sp.contains (x32 c) = true) (l : List Int) : ueOk sp (125 :: c :: l) = ueOk sp l := by
  unfold ueOk
  rw [ueF_esc, show x32 c :: ueF l = [x32 c] ++ ueF l from rfl, esF_append, esF_one, esc, if_pos hs, (x32_byte hc).2]
  simp
theorem ueOk_escBad {sp : List Int} {c : Int} (h125 : sp.contains 125 = true) (hs : sp.contains (x32 c) = false) (l : List Int) : ueOk sp (125 :: c :: l) = false := by
  unfold ueOk
  rw [ueF_esc, show x32 c :: ueF l = [x32 c] ++ ueF l from rfl, esF_append, esF_one, esc, if_neg (by rw [hs]; decide)]
  apply decide_eq_false
  intro e
  simp at e
  rw [e.1] at hs
  have hs' : sp.contains (125 : Int) = false := by simpa using hs
  rw [hs'] at h125; cases h125
theorem ueOk_nil (sp : List Int) : ueOk sp [] = true := by simp [ueOk, ueF, esF]
end Go.Proofs.Ytddlpbpcdjddpaa
