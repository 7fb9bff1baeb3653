/- Plain: products that lose what they have in common, number by number. -/
import Derived.Test.YtmhdjimdhcephabPl
namespace Go.Proofs.Ytmhdjimdhcephab
open Go Go.RowKit
set_option linter.unusedVariables false

def prN : List Nat → Nat
  | [] => 1
  | x :: t => x * prN t
theorem prN_set : ∀ (l : List Nat) (k v : Nat) (h : k < l.length), prN (l.set k v) * l[k] = prN l * v
  | [], k, v, h => by simp at h
  | x :: t, 0, v, h => by simp only [List.set_cons_zero, prN, List.getElem_cons_zero]; rw [Nat.mul_comm v, Nat.mul_comm x, Nat.mul_assoc, Nat.mul_assoc, Nat.mul_comm v]
  | x :: t, k + 1, v, h => by
    have ih := prN_set t k v (by simpa using h)
    simp only [List.set_cons_succ, prN, List.getElem_cons_succ]
    rw [Nat.mul_assoc, ih, Nat.mul_assoc]
theorem prN_pos : ∀ {l : List Nat}, (∀ x ∈ l, 1 ≤ x) → 0 < prN l
  | [], _ => by simp [prN]
  | x :: t, h => by
    rw [prN]
    exact Nat.mul_pos (h x List.mem_cons_self) (prN_pos fun y hy => h y (List.mem_cons_of_mem _ hy))
theorem prN_append (a b : List Nat) : prN (a ++ b) = prN a * prN b := by
  induction a with
  | nil => simp [prN]
  | cons x t ih => rw [List.cons_append, prN, prN, ih, Nat.mul_assoc]
theorem prN_rep (n x : Nat) : prN (List.replicate n x) = x ^ n := by
  induction n with
  | zero => rfl
  | succ n ih => rw [List.replicate_succ, prN, ih, Nat.pow_succ, Nat.mul_comm]
theorem natD_at {l : List Nat} {k : Nat} (h : k < l.length) : l.getD k 0 = l[k] := by simp [List.getD, List.getElem?_eq_getElem h]
theorem natD_set (l : List Nat) (i k v : Nat) (hi : i < l.length) (hk : k < l.length) : (l.set i v).getD k 0 = if i = k then v else l.getD k 0 := by
  rw [natD_at (by rw [List.length_set]; exact hk), natD_at hk, List.getElem_set]
theorem cop_prod {x : Nat} : ∀ {l : List Nat}, (∀ y ∈ l, Nat.Coprime x y) → Nat.Coprime x (prN l)
  | [], _ => by rw [prN]; exact Nat.coprime_one_right x
  | y :: t, h => by
    rw [prN]
    exact Nat.Coprime.mul_right (h y List.mem_cons_self) (cop_prod fun z hz => h z (List.mem_cons_of_mem _ hz))
theorem cop_prods {m : List Nat} : ∀ {l : List Nat}, (∀ x ∈ l, ∀ y ∈ m, Nat.Coprime x y) → Nat.Coprime (prN l) (prN m)
  | [], _ => by rw [prN]; exact Nat.coprime_one_left _
  | x :: t, h => by
    rw [prN]
    exact Nat.Coprime.mul_left (cop_prod (h x List.mem_cons_self)) (cop_prods fun z hz => h z (List.mem_cons_of_mem _ hz))
structure PtI (M : Nat) (A0 B0 : List Nat) (i k : Nat) (A B : List Nat) : Prop where
  la : A.length = A0.length
  lb : B.length = B0.length
  pos : ∀ x ∈ B, 1 ≤ x
  leA : ∀ x ∈ A, x ≤ M
  leB : ∀ x ∈ B, x ≤ M
  pr : prN A * prN B0 = prN A0 * prN B
  cop : ∀ p q, p < A.length → q < B.length → (p < i ∨ p = i ∧ q < k) → Nat.Coprime (A.getD p 0) (B.getD q 0)
theorem ptI_zero {M : Nat} {A0 B0 : List Nat} (hA : ∀ x ∈ A0, x ≤ M) (hB : ∀ x ∈ B0, 1 ≤ x ∧ x ≤ M) : PtI M A0 B0 0 0 A0 B0 :=
  ⟨rfl, rfl, fun x hx => (hB x hx).1, hA, fun x hx => (hB x hx).2, rfl, fun p q _ _ h => by omega⟩
theorem cop_div {x y g h : Nat} (hc : Nat.Coprime x y) (hg : g ∣ x) (hh : h ∣ y) : Nat.Coprime (x / g) (y / h) :=
  Nat.Coprime.coprime_dvd_left (Nat.div_dvd_of_dvd hg) (Nat.Coprime.coprime_dvd_right (Nat.div_dvd_of_dvd hh) hc)
theorem ptI_next {M : Nat} {A0 B0 A B : List Nat} {i k : Nat} (h : PtI M A0 B0 i k A B) (hi : i < A.length) (hk : k < B.length) :
    PtI M A0 B0 i (k + 1) (A.set i (A[i] / Nat.gcd A[i] B[k])) (B.set k (B[k] / Nat.gcd A[i] B[k])) := by
  obtain ⟨h1, h2, h3, h4, h5, h6, h7⟩ := h
  have hb := h3 B[k] (List.getElem_mem hk)
  have hg : 0 < Nat.gcd A[i] B[k] := Nat.gcd_pos_of_pos_right _ (by omega)
  have ga := Nat.gcd_dvd_left A[i] B[k]
  have gb := Nat.gcd_dvd_right A[i] B[k]
  have hq : 1 ≤ B[k] / Nat.gcd A[i] B[k] := (Nat.one_le_div_iff hg).2 (Nat.le_of_dvd (by omega) gb)
  refine ⟨by rw [List.length_set]; exact h1, by rw [List.length_set]; exact h2, fun x hx => ?_, fun x hx => ?_, fun x hx => ?_, ?_, fun p q hp hq' hpq => ?_⟩
  · rcases List.mem_or_eq_of_mem_set hx with hx | rfl
    · exact h3 x hx
    · exact hq
  · rcases List.mem_or_eq_of_mem_set hx with hx | rfl
    · exact h4 x hx
    · exact Nat.le_trans (Nat.div_le_self _ _) (h4 _ (List.getElem_mem hi))
  · rcases List.mem_or_eq_of_mem_set hx with hx | rfl
    · exact h5 x hx
    · exact Nat.le_trans (Nat.div_le_self _ _) (h5 _ (List.getElem_mem hk))
  · by_cases ha : A[i] = 0
    · -- the product is 0 on both sides
      have e1 : A.set i (A[i] / Nat.gcd A[i] B[k]) = A := by
        rw [ha, Nat.zero_div]
        have := List.set_getElem_self (as := A) (i := i) hi
        rw [ha] at this; exact this
      have z : prN A = 0 := by
        have := prN_set A i 0 hi
        rw [ha, Nat.mul_zero, Nat.mul_zero] at this
        have e : prN (A.set i A[i]) = prN A := by rw [List.set_getElem_self]
        have key : ∀ (l : List Nat), 0 ∈ l → prN l = 0 := by
          intro l
          induction l with
          | nil => simp
          | cons y t ih =>
            intro hm
            rw [prN]
            rcases List.mem_cons.1 hm with h | h
            · rw [← h, Nat.zero_mul]
            · rw [ih h, Nat.mul_zero]
        exact key A (by rw [← ha]; exact List.getElem_mem hi)
      have z0 : prN A0 = 0 := by
        rw [z, Nat.zero_mul] at h6
        rcases Nat.mul_eq_zero.1 h6.symm with h | h
        · exact h
        · have := prN_pos h3; omega
      rw [e1, z, z0, Nat.zero_mul, Nat.zero_mul]
    · have e1 := prN_set A i (A[i] / Nat.gcd A[i] B[k]) hi
      have e2 := prN_set B k (B[k] / Nat.gcd A[i] B[k]) hk
      have ea : A[i] / Nat.gcd A[i] B[k] * Nat.gcd A[i] B[k] = A[i] := Nat.div_mul_cancel ga
      have eb : B[k] / Nat.gcd A[i] B[k] * Nat.gcd A[i] B[k] = B[k] := Nat.div_mul_cancel gb
      generalize Nat.gcd A[i] B[k] = g at *
      generalize prN (A.set i (A[i] / g)) = X at *
      generalize prN (B.set k (B[k] / g)) = Y at *
      generalize hxa : A[i] / g = x at *
      generalize hyb : B[k] / g = y at *
      rw [← ea] at e1 ha
      rw [← eb] at e2 hb
      have hx0 : 0 < x := Nat.pos_of_ne_zero fun e => ha (by rw [e, Nat.zero_mul])
      have hy0 : 0 < y := by omega
      have e3 : X * g = prN A := by
        have : X * g * x = prN A * x := by rw [Nat.mul_assoc, Nat.mul_comm g]; exact e1
        exact Nat.eq_of_mul_eq_mul_right hx0 this
      have e4 : Y * g = prN B := by
        have : Y * g * y = prN B * y := by rw [Nat.mul_assoc, Nat.mul_comm g]; exact e2
        exact Nat.eq_of_mul_eq_mul_right hy0 this
      rw [← e3, ← e4] at h6
      have : X * prN B0 * g = prN A0 * Y * g := by rw [Nat.mul_assoc, Nat.mul_comm (prN B0), ← Nat.mul_assoc, h6, Nat.mul_assoc]
      exact Nat.eq_of_mul_eq_mul_right hg this
  · rw [List.length_set] at hp hq'
    rw [natD_set _ _ _ _ hi hp, natD_set _ _ _ _ hk hq']
    by_cases e1 : i = p
    · rw [if_pos e1]
      by_cases e2 : k = q
      · rw [if_pos e2]
        exact Nat.coprime_div_gcd_div_gcd hg
      · rw [if_neg e2]
        have := h7 p q hp hq' (by omega)
        rw [← e1, natD_at hi] at this
        have h8 := cop_div this ga (Nat.one_dvd _)
        rw [Nat.div_one] at h8
        exact h8
    · rw [if_neg e1]
      have := h7 p q hp hq' (by omega)
      by_cases e2 : k = q
      · rw [if_pos e2]
        rw [← e2, natD_at hk] at this
        have h8 := cop_div this (Nat.one_dvd _) gb
        rw [Nat.div_one] at h8
        exact h8
      · rw [if_neg e2]; exact this
theorem ptI_row {M : Nat} {A0 B0 A B : List Nat} {i k : Nat} (h : PtI M A0 B0 i k A B) (hk : B.length ≤ k) : PtI M A0 B0 (i + 1) 0 A B :=
  ⟨h.la, h.lb, h.pos, h.leA, h.leB, h.pr, fun p q hp hq hpq => h.cop p q hp hq (by omega)⟩
theorem low_terms {a b P Q : Nat} (hc : Nat.Coprime a b) (hb : 0 < b) (hQ : 0 < Q) (h : a * Q = P * b) : a = P / Nat.gcd P Q ∧ b = Q / Nat.gcd P Q := by
  have h1 : b ∣ a * Q := ⟨P, by rw [h, Nat.mul_comm]⟩
  obtain ⟨t, ht⟩ := Nat.Coprime.dvd_of_dvd_mul_left hc.symm h1
  have ht0 : 0 < t := Nat.pos_of_ne_zero fun e => by rw [e, Nat.mul_zero] at ht; omega
  have hP : P = a * t := by
    have : P * b = a * t * b := by rw [← h, ht, Nat.mul_assoc, Nat.mul_comm b]
    exact Nat.eq_of_mul_eq_mul_right hb this
  have hg : Nat.gcd P Q = t := by rw [hP, ht, Nat.gcd_mul_right, hc, Nat.one_mul]
  rw [hg, hP, ht]
  exact ⟨(Nat.mul_div_cancel _ ht0).symm, (Nat.mul_div_cancel _ ht0).symm⟩
theorem ptI_end {M : Nat} {A0 B0 A B : List Nat} {i k : Nat} (h : PtI M A0 B0 i k A B) (hi : A.length ≤ i) (hB0 : ∀ x ∈ B0, 1 ≤ x) :
    prN A = prN A0 / Nat.gcd (prN A0) (prN B0) ∧ prN B = prN B0 / Nat.gcd (prN A0) (prN B0) := by
  refine low_terms ?_ (prN_pos h.pos) (prN_pos hB0) h.pr
  refine cop_prods fun x hx y hy => ?_
  obtain ⟨p, hp, rfl⟩ := List.getElem_of_mem hx
  obtain ⟨q, hq, rfl⟩ := List.getElem_of_mem hy
  have := h.cop p q hp hq (.inl (by omega))
  rwa [natD_at hp, natD_at hq] at this
end Go.Proofs.Ytmhdjimdhcephab
