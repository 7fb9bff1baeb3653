/- Plain: great numbers as digits to the base 10 to the power of 9, the least one first. -/
import Derived.Test.YtmhdjimdhcephabPl
namespace Go.Proofs.Ytmhdjimdhcephab
open Go Go.RowKit
set_option linter.unusedVariables false

def bv : List Int → Int
  | [] => 0
  | d :: t => d + 1000000000 * bv t
def BD (L : List Int) : Prop := ∀ d ∈ L, 0 ≤ d ∧ d ≤ 999999999
/-- Digits, the last of which is not 0. -/
def BG (L : List Int) : Prop := BD L ∧ (L ≠ [] → L.getD (L.length - 1) 0 ≠ 0)
theorem getD_lt {l : List Int} {k : Nat} (h : k < l.length) : l.getD k 0 = l[k] := by simp [List.getD, List.getElem?_eq_getElem h]
theorem getD_ge {l : List Int} {k : Nat} (h : l.length ≤ k) : l.getD k 0 = 0 := by simp [List.getD, List.getElem?_eq_none h]
theorem BD.at {L : List Int} (h : BD L) (k : Nat) : 0 ≤ L.getD k 0 ∧ L.getD k 0 ≤ 999999999 := by
  by_cases hk : k < L.length
  · rw [getD_lt hk]; exact h _ (List.getElem_mem hk)
  · rw [getD_ge (by omega)]; omega
theorem pw_succ (n : Nat) : (1000000000 : Int) ^ (n + 1) = 1000000000 * 1000000000 ^ n := by rw [Int.pow_succ, Int.mul_comm]
theorem pw_pos (n : Nat) : (0 : Int) < 1000000000 ^ n := Int.pow_pos (by decide)
theorem pw_add (m n : Nat) : (1000000000 : Int) ^ (m + n) = 1000000000 ^ m * 1000000000 ^ n := Int.pow_add _ _ _
theorem bv_bd : ∀ {L : List Int}, BD L → 0 ≤ bv L ∧ bv L < 1000000000 ^ L.length
  | [], _ => by simp [bv]
  | d :: t, h => by
    obtain ⟨h1, h2⟩ := bv_bd (L := t) fun x hx => h x (List.mem_cons_of_mem _ hx)
    have h3 := h d List.mem_cons_self
    rw [bv, List.length_cons, pw_succ]
    omega
theorem bv_append (A C : List Int) : bv (A ++ C) = bv A + 1000000000 ^ A.length * bv C := by
  induction A with
  | nil => simp [bv]
  | cons a t ih => rw [List.cons_append, bv, bv, ih, List.length_cons, pw_succ, Int.mul_add, Int.mul_assoc, Int.add_assoc]
theorem bv_snoc (A : List Int) (x : Int) : bv (A ++ [x]) = bv A + x * 1000000000 ^ A.length := by
  rw [bv_append]; simp [bv]; rw [Int.mul_comm]
theorem bv_take (L : List Int) (k : Nat) (h : k < L.length) : bv (L.take (k + 1)) = bv (L.take k) + L.getD k 0 * 1000000000 ^ k := by
  rw [List.take_succ_eq_append_getElem h, bv_snoc, getD_lt h, List.length_take, Nat.min_eq_left (by omega)]
theorem bv_set : ∀ (L : List Int) (p : Nat) (v : Int), p < L.length → bv (L.set p v) = bv L + (v - L.getD p 0) * 1000000000 ^ p
  | [], p, v, h => by simp at h
  | d :: t, 0, v, h => by simp [bv]; omega
  | d :: t, p + 1, v, h => by
    have ih := bv_set t p v (by simpa using h)
    rw [List.set_cons_succ, bv, bv, ih, pw_succ]
    have e : (d :: t).getD (p + 1) 0 = t.getD p 0 := by simp [List.getD]
    rw [e, Int.mul_add, Int.mul_left_comm]
    omega
/-- Digits 0 at the end say nothing. -/
theorem bv_cut (L : List Int) (m : Nat) (h : ∀ j, m ≤ j → L.getD j 0 = 0) : bv (L.take m) = bv L := by
  by_cases hm : L.length ≤ m
  · rw [List.take_of_length_le hm]
  · have key : ∀ d, m + d ≤ L.length → bv (L.take (m + d)) = bv (L.take m) := by
      intro d
      induction d with
      | zero => intro _; rfl
      | succ d ih =>
        intro hd
        rw [show m + (d + 1) = (m + d) + 1 from rfl, bv_take L (m + d) (by omega), h (m + d) (by omega), ih (by omega)]
        simp
    have := key (L.length - m) (by omega)
    rw [show m + (L.length - m) = L.length by omega, List.take_length] at this
    exact this.symm
theorem BD.take {L : List Int} (h : BD L) (k : Nat) : BD (L.take k) := fun d hd => h d (List.mem_of_mem_take hd)
theorem BD.set {L : List Int} (h : BD L) (k : Nat) (x : Int) (hx : 0 ≤ x ∧ x ≤ 999999999) : BD (L.set k x) := by
  intro d hd
  rcases List.mem_or_eq_of_mem_set hd with hd | rfl
  · exact h d hd
  · exact hx
theorem BD.snoc {L : List Int} (h : BD L) (x : Int) (hx : 0 ≤ x ∧ x ≤ 999999999) : BD (L ++ [x]) := by
  intro d hd
  rcases List.mem_append.1 hd with hd | hd
  · exact h d hd
  · simp at hd; rw [hd]; exact hx
/-- A number of n digits, none of them 0 at the end, is great. -/
theorem bv_low {L : List Int} (h : BG L) (hn : L ≠ []) : (1000000000 : Int) ^ (L.length - 1) ≤ bv L := by
  have hl : 0 < L.length := List.length_pos_iff.2 hn
  have h1 := bv_take L (L.length - 1) (by omega)
  rw [show L.length - 1 + 1 = L.length by omega, List.take_length] at h1
  have h2 := h.2 hn
  have h3 := h.1.at (L.length - 1)
  have h4 := (bv_bd (h.1.take (L.length - 1))).1
  have h5 := pw_pos (L.length - 1)
  have h6 : 1 * (1000000000 : Int) ^ (L.length - 1) ≤ L.getD (L.length - 1) 0 * 1000000000 ^ (L.length - 1) := Int.mul_le_mul_of_nonneg_right (by omega) (by omega)
  omega
theorem bv_nil {L : List Int} (h : BG L) : bv L = 0 ↔ L = [] := by
  constructor
  · intro e
    refine Classical.byContradiction fun hn => ?_
    have := bv_low h hn
    have := pw_pos (L.length - 1)
    omega
  · intro e; rw [e]; rfl
/-- Whether a number is at most 10 to the power of 18. -/
def bgT (L : List Int) : Bool := decide (3 < L.length) || (decide (L.length = 3) && (decide (1 < L.getD 2 0) || (decide (L.getD 2 0 = 1) && (decide (0 < L.getD 0 0) || decide (0 < L.getD 1 0)))))
theorem bgT_is {L : List Int} (h : BG L) : bgT L = decide (1000000000000000000 < bv L) := by
  unfold bgT
  by_cases h1 : 3 < L.length
  · rw [decide_eq_true h1, Bool.true_or]
    have := bv_low h (by intro e; rw [e] at h1; simp at h1)
    have h2 : (1000000000 : Int) ^ 3 ≤ 1000000000 ^ (L.length - 1) := by
      obtain ⟨d, hd⟩ : ∃ d, L.length - 1 = 3 + d := ⟨L.length - 4, by omega⟩
      rw [hd, pw_add]
      have := pw_pos d
      omega
    have h3 : (1000000000 : Int) ^ 3 = 1000000000000000000000000000 := by decide
    rw [h3] at h2
    exact (decide_eq_true (by omega)).symm
  · rw [decide_eq_false h1, Bool.false_or]
    match L, h1, h with
    | [], _, _ => simp [bv]
    | [a], _, h => have := h.1 a (by simp); simp [bv]; omega
    | [a, b], _, h => have := h.1 a (by simp); have := h.1 b (by simp); simp [bv]; omega
    | [a, b, c], _, h =>
      have h1 := h.1 a (by simp); have h2 := h.1 b (by simp); have h3 := h.1 c (by simp)
      have e : bv [a, b, c] = a + 1000000000 * (b + 1000000000 * c) := by simp [bv]
      rw [e]
      rw [Bool.eq_iff_iff]
      simp [List.getD]
      omega
    | a :: b :: c :: d :: t, h1, _ => simp at h1

/-- A product under way: k digits of b have been taken for the digit i of a. -/
structure TmI (a b : List Int) (i k : Nat) (out : List Int) (c : Int) : Prop where
  len : out.length = a.length + b.length
  dig : BD out
  c0 : 0 ≤ c ∧ c ≤ 999999999
  kle : k ≤ b.length ∨ k = b.length + 1 ∧ c = 0
  top : ∀ j, i + max k b.length ≤ j → out.getD j 0 = 0
  eq : bv out + c * 1000000000 ^ (i + k) = bv (a.take i) * bv b + a.getD i 0 * 1000000000 ^ i * bv (b.take k)
theorem tmI_zero (a b : List Int) : TmI a b 0 0 (List.replicate (a.length + b.length) 0) 0 := by
  have hz : ∀ n, bv (List.replicate n 0) = 0 := by
    intro n
    induction n with
    | zero => rfl
    | succ n ih => rw [List.replicate_succ, bv, ih]; rfl
  refine ⟨by simp, fun d hd => by simp [List.mem_replicate] at hd; omega, by omega, .inl (Nat.zero_le _), fun j hj => ?_, by rw [hz]; simp [bv]⟩
  by_cases h : j < a.length + b.length
  · rw [getD_lt (by simpa using h)]; simp
  · rw [getD_ge (by simp; omega)]
def tmS (a b out : List Int) (c : Int) (i k : Nat) : Int := c + out.getD (i + k) 0 + (if k < b.length then a.getD i 0 * b.getD k 0 else 0)
theorem bd_mul {x y : Int} (hx : 0 ≤ x ∧ x ≤ 999999999) (hy : 0 ≤ y ∧ y ≤ 999999999) : 0 ≤ x * y ∧ x * y ≤ 999999998000000001 := by
  refine ⟨Int.mul_nonneg hx.1 hy.1, ?_⟩
  have h := Int.mul_le_mul hx.2 hy.2 hy.1 (by decide)
  omega
theorem set_getD (l : List Int) (i k : Nat) (v : Int) (hi : i < l.length) : (l.set i v).getD k 0 = if i = k then v else l.getD k 0 := by
  by_cases hk : k < l.length
  · rw [getD_lt (by rw [List.length_set]; exact hk), getD_lt hk, List.getElem_set]
  · rw [getD_ge (by rw [List.length_set]; omega), getD_ge (by omega), if_neg (by omega)]
theorem tm_where {a b : List Int} {i k : Nat} {out : List Int} {c : Int} (h : TmI a b i k out c) (hi : i < a.length) (hc : k < b.length ∨ 0 < c) : i + k < out.length := by
  have h1 := h.kle
  have h2 := h.len
  omega
theorem tm_s {a b : List Int} {i k : Nat} {out : List Int} {c : Int} (ha : BD a) (hb : BD b) (h : TmI a b i k out c) : 0 ≤ tmS a b out c i k ∧ tmS a b out c i k ≤ 999999999999999999 := by
  unfold tmS
  have h1 := h.dig.at (i + k)
  have h2 := bd_mul (ha.at i) (hb.at k)
  have h3 := h.c0
  split <;> omega
theorem tm_next {a b : List Int} {i k : Nat} {out : List Int} {c : Int} (ha : BD a) (hb : BD b) (h : TmI a b i k out c) (hi : i < a.length) (hc : k < b.length ∨ 0 < c) :
    TmI a b i (k + 1) (out.set (i + k) (tmS a b out c i k % 1000000000)) (tmS a b out c i k / 1000000000) := by
  have hp := tm_where h hi hc
  have hs := tm_s ha hb h
  have e1 := Int.mul_ediv_add_emod (tmS a b out c i k) 1000000000
  obtain ⟨h1, h2, h3, h4, h5, h6⟩ := h
  have hz : b.length ≤ k → tmS a b out c i k = c := by
    intro hk
    unfold tmS
    rw [if_neg (by omega), h5 (i + k) (by omega)]
    omega
  have hkey : bv (b.take (k + 1)) = bv (b.take k) + (if k < b.length then b.getD k 0 else 0) * 1000000000 ^ k := by
    by_cases hk : k < b.length
    · rw [if_pos hk, bv_take b k hk]
    · rw [if_neg hk, List.take_of_length_le (by omega), List.take_of_length_le (by omega)]; simp
  have hS : tmS a b out c i k = c + out.getD (i + k) 0 + a.getD i 0 * (if k < b.length then b.getD k 0 else 0) := by
    unfold tmS
    split <;> simp
  generalize hT : tmS a b out c i k = T at *
  refine ⟨by rw [List.length_set]; exact h1, h2.set _ _ (by omega), by omega, ?_, fun j hj => ?_, ?_⟩
  · by_cases hk : k < b.length
    · exact .inl (by omega)
    · exact .inr ⟨by omega, by have := hz (by omega); omega⟩
  · rw [set_getD _ _ _ _ hp, if_neg (by omega)]
    exact h5 j (by omega)
  · rw [bv_set _ _ _ hp, hkey]
    generalize (if k < b.length then b.getD k 0 else 0) = y at *
    generalize a.getD i 0 = x at *
    generalize out.getD (i + k) 0 = o at *
    rw [show i + (k + 1) = (i + k) + 1 from rfl, pw_succ]
    have e2 : x * 1000000000 ^ i * (bv (b.take k) + y * 1000000000 ^ k) = x * 1000000000 ^ i * bv (b.take k) + x * y * 1000000000 ^ (i + k) := by
      rw [Int.mul_add, pw_add]
      congr 1
      rw [Int.mul_assoc, Int.mul_assoc, Int.mul_left_comm (1000000000 ^ i) y]
    rw [e2, ← Int.add_assoc, ← h6]
    generalize (1000000000 : Int) ^ (i + k) = p at *
    have e3 : T / 1000000000 * (1000000000 * p) = (1000000000 * (T / 1000000000)) * p := by rw [← Int.mul_assoc, Int.mul_comm (T / 1000000000)]
    rw [e3, Int.add_assoc, ← Int.add_mul, Int.add_assoc, ← Int.add_mul]
    congr 2
    omega
theorem tm_row {a b : List Int} {i k : Nat} {out : List Int} {c : Int} (h : TmI a b i k out c) (hi : i < a.length) (hc : ¬ (k < b.length ∨ 0 < c)) : TmI a b (i + 1) 0 out 0 := by
  obtain ⟨h1, h2, h3, h4, h5, h6⟩ := h
  have hc0 : c = 0 := by omega
  refine ⟨h1, h2, by omega, .inl (Nat.zero_le _), fun j hj => h5 j (by omega), ?_⟩
  rw [hc0, List.take_of_length_le (show b.length ≤ k by omega)] at h6
  rw [bv_take a i hi, Int.add_mul]
  simp [bv]
  simp at h6
  exact h6
theorem tm_end {a b : List Int} {out : List Int} (h : TmI a b a.length 0 out 0) : bv out = bv a * bv b := by
  have := h.eq
  rw [List.take_length] at this
  simp [bv] at this
  exact this
end Go.Proofs.Ytmhdjimdhcephab
