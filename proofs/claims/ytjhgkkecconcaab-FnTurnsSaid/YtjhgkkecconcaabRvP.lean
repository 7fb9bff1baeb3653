/- Plain: slots that are laid into frames. -/
import Derived.Test.YtjhgkkecconcaabTkQ
namespace Go.Proofs.Ytjhgkkecconcaab
open Go Go.RowKit
set_option linter.unusedVariables false

/-- What is left, and who has got the slots of a frame, behind j turns. -/
def rvN (n f j : Nat) (s : List Int × List Int) : List Int × List Int :=
  if s.2.length < f ∧ 0 < s.1.getD (j % n) 0 then (s.1.set (j % n) (s.1.getD (j % n) 0 - 1), s.2 ++ [((j % n : Nat) : Int)]) else s
def rvS (L : List Int) (f : Nat) : Nat → List Int × List Int
  | 0 => (L, [])
  | j + 1 => rvN L.length f j (rvS L f j)
def rvOk (L : List Int) (f : Nat) : Prop := 1 ≤ L.length ∧ L.length ≤ 12 ∧ (∀ x ∈ L, 0 ≤ x ∧ x ≤ 1000) ∧ 1 ≤ f ∧ f ≤ 20
structure RvI (L : List Int) (f : Nat) (s : List Int × List Int) (j : Nat) : Prop where
  len : s.1.length = L.length
  low : ∀ k (h : k < L.length), 0 ≤ s.1.getD k 0 ∧ s.1.getD k 0 ≤ L[k]
  is : s.2.length < f → ∀ k (h : k < L.length), s.1.getD k 0 = max 0 (L[k] - (tnS L.length j k : Int))
  sum : s.1.sum + s.2.length = L.sum
  most : s.2.length ≤ f
  mem : ∀ x ∈ s.2, 0 ≤ x ∧ x < L.length
theorem getD_set (l : List Int) (i k : Nat) (v : Int) (hi : i < l.length) (hk : k < l.length) : (l.set i v).getD k 0 = if i = k then v else l.getD k 0 := by
  rw [getD_at (by rw [List.length_set]; exact hk), getD_at hk, List.getElem_set]
theorem rvI_all {L : List Int} {f : Nat} (h : rvOk L f) : ∀ j, RvI L f (rvS L f j) j
  | 0 => by
    obtain ⟨h1, h2, h3, h4, h5⟩ := h
    refine ⟨rfl, fun k hk => ?_, fun _ k hk => ?_, by simp [rvS], by simp [rvS], by simp [rvS]⟩
    · have := h3 L[k] (List.getElem_mem _)
      show 0 ≤ L.getD k 0 ∧ L.getD k 0 ≤ L[k]
      rw [getD_at hk]; omega
    · have := h3 L[k] (List.getElem_mem _)
      show L.getD k 0 = _
      rw [getD_at hk]
      have e : tnS L.length 0 k = 0 := by unfold tnS; simp
      rw [e]; omega
  | j + 1 => by
    have ih := rvI_all h j
    obtain ⟨h1, h2, h3, h4, h5⟩ := h
    obtain ⟨a1, a2, a3, a4, a5, a6⟩ := ih
    have hm := Nat.mod_lt j (show 0 < L.length by omega)
    rw [rvS]
    generalize rvS L f j = s at *
    unfold rvN
    by_cases hc : s.2.length < f ∧ 0 < s.1.getD (j % L.length) 0
    · rw [if_pos hc]
      refine ⟨by simp [a1], fun k hk => ?_, fun hl k hk => ?_, ?_, by simp; omega, fun x hx => ?_⟩
      · dsimp only
        rw [getD_set _ _ _ _ (by omega) (by omega)]
        have := a2 k hk
        split
        · rename_i e; subst e; omega
        · omega
      · dsimp only
        rw [getD_set _ _ _ _ (by omega) (by omega), tnS_succ _ _ _ (by omega) hk]
        have := a3 hc.1 k hk
        by_cases e : j % L.length = k
        · rw [if_pos e, if_pos e.symm]; subst e; omega
        · rw [if_neg e, if_neg (fun e' => e e'.symm)]; omega
      · dsimp only
        rw [sum_set _ _ _ (by omega), getD_at (by omega)]
        simp; omega
      · rcases List.mem_append.1 hx with hx | hx
        · exact a6 x hx
        · simp at hx; omega
    · rw [if_neg hc]
      refine ⟨a1, a2, fun hl k hk => ?_, a4, a5, a6⟩
      rw [tnS_succ _ _ _ (by omega) hk]
      have := a3 hl k hk
      have h0 : ¬ 0 < s.1.getD (j % L.length) 0 := fun e => hc ⟨hl, e⟩
      by_cases e : k = j % L.length
      · rw [if_pos e]; subst e; omega
      · rw [if_neg e]; omega
/-- The frame is full, or nothing is left. -/
def rvZ (L : List Int) (f j : Nat) : Prop := (rvS L f j).2.length = f ∨ ∀ x ∈ (rvS L f j).1, x = 0
theorem rvZ_stay {L : List Int} {f : Nat} (h : rvOk L f) {j : Nat} (hz : rvZ L f j) : rvS L f (j + 1) = rvS L f j := by
  have hI := rvI_all h j
  have hm := Nat.mod_lt j (show 0 < L.length by have := h.1; omega)
  rw [rvS]
  unfold rvN
  rw [if_neg]
  rintro ⟨h1, h2⟩
  rcases hz with hz | hz
  · omega
  · rw [getD_at (by rw [hI.len]; exact hm)] at h2
    have := hz _ (List.getElem_mem (by rw [hI.len]; exact hm))
    omega
theorem rvZ_later {L : List Int} {f : Nat} (h : rvOk L f) {j : Nat} (hz : rvZ L f j) : ∀ d, rvS L f (j + d) = rvS L f j
  | 0 => rfl
  | d + 1 => by
    have ih := rvZ_later h hz d
    rw [show j + (d + 1) = (j + d) + 1 from rfl, rvZ_stay h (by unfold rvZ; rw [ih]; exact hz), ih]
theorem sum_diff {A B : List Int} (hl : B.length = A.length) (h : ∀ k (h : k < A.length), B.getD k 0 ≤ A[k]) : ∀ k (h : k < A.length), A[k] - B.getD k 0 ≤ A.sum - B.sum ∧ 0 ≤ A.sum - B.sum := by
  induction A generalizing B with
  | nil => intro k hk; simp at hk
  | cons a t ih =>
    cases B with
    | nil => simp at hl
    | cons b u =>
      have h0 := h 0 (by simp)
      simp at h0
      have ht : ∀ k (h : k < t.length), u.getD k 0 ≤ t[k] := fun k hk => by
        have h2 := h (k + 1) (by simpa using hk)
        rw [List.getElem_cons_succ] at h2
        simpa [List.getD] using h2
      have hl' : u.length = t.length := by simpa using hl
      have hn : 0 ≤ t.sum - u.sum := by
        by_cases e : 0 < t.length
        · exact (ih hl' ht 0 e).2
        · have e1 : t = [] := List.length_eq_zero_iff.1 (by omega)
          have e2 : u = [] := List.length_eq_zero_iff.1 (by omega)
          rw [e1, e2]; simp
      intro k hk
      rw [List.sum_cons, List.sum_cons]
      cases k with
      | zero => simp; omega
      | succ k =>
        have := (ih hl' ht k (by simpa using hk)).1
        simp at this ⊢
        omega
theorem rvZ_of {L : List Int} {f : Nat} (h : rvOk L f) {j : Nat} (hj : 20 * L.length ≤ j) : rvZ L f j := by
  have hI := rvI_all h j
  unfold rvZ
  by_cases hl : (rvS L f j).2.length = f
  · exact .inl hl
  · refine .inr fun x hx => ?_
    obtain ⟨k, hk, rfl⟩ := List.getElem_of_mem hx
    rw [hI.len] at hk
    have hlt : (rvS L f j).2.length < f := by have := hI.most; omega
    have h1 := hI.is hlt k hk
    have h2 := (sum_diff hI.len (fun k hk => (hI.low k hk).2) k hk).1
    have h3 := hI.sum
    have h4 : 20 ≤ tnS L.length j k := by
      unfold tnS
      have : 20 ≤ j / L.length := (Nat.le_div_iff_mul_le (by have := h.1; omega)).2 hj
      omega
    rw [getD_at (by rw [hI.len]; exact hk)] at h1 h2
    have := h.2.2.2.2
    omega
/-- A frame: what is left behind it, and its slots. -/
def rvF (L : List Int) (f : Nat) : List Int × List Int := rvS L f (20 * L.length)
theorem rvF_is {L : List Int} {f : Nat} (h : rvOk L f) {j : Nat} (hz : rvZ L f j) : rvS L f j = rvF L f := by
  unfold rvF
  by_cases hj : j ≤ 20 * L.length
  · obtain ⟨d, e⟩ : ∃ d, 20 * L.length = j + d := ⟨20 * L.length - j, by omega⟩
    rw [e]; exact (rvZ_later h hz d).symm
  · obtain ⟨d, e⟩ : ∃ d, j = 20 * L.length + d := ⟨j - 20 * L.length, by omega⟩
    rw [e]; exact rvZ_later h (rvZ_of h (Nat.le_refl _)) d
theorem rv_sum_end {L : List Int} {f : Nat} (h : rvOk L f) {j : Nat} (h1 : (rvS L f j).2.length < f) (h2 : 0 < (rvS L f j).1.sum) : j < 20 * L.length := by
  refine Nat.lt_of_not_le fun hj => ?_
  rcases rvZ_of h hj with hz | hz
  · omega
  · have := sum_zero hz; omega
theorem rv_nn {L : List Int} {f : Nat} (h : rvOk L f) (j : Nat) : ∀ x ∈ (rvS L f j).1, 0 ≤ x ∧ x ≤ 1000 := by
  intro x hx
  have hI := rvI_all h j
  obtain ⟨k, hk, rfl⟩ := List.getElem_of_mem hx
  have h1 := hI.low k (by rw [← hI.len]; exact hk)
  have h2 := h.2.2.1 (L[k]'(by rw [← hI.len]; exact hk)) (List.getElem_mem _)
  rw [getD_at hk] at h1
  omega
theorem rv_sum_zero {L : List Int} {f : Nat} (h : rvOk L f) {j : Nat} (hp : ¬ 0 < (rvS L f j).1.sum) : ∀ x ∈ (rvS L f j).1, x = 0 := by
  intro x hx
  have h1 := sum_nn fun x hx => (rv_nn h j x hx).1
  have := h1.2 x hx
  have := (rv_nn h j x hx).1
  omega
theorem rvZ_full {L : List Int} {f : Nat} {j : Nat} (h1 : (rvS L f j).2.length = f) : rvZ L f j := .inl h1
theorem rvZ_none {L : List Int} {f : Nat} (h : rvOk L f) {j : Nat} (hp : ¬ 0 < (rvS L f j).1.sum) : rvZ L f j := .inr (rv_sum_zero h hp)
theorem rv_max_end {L : List Int} {f : Nat} (h : rvOk L f) {j : Nat} {M : Int} (h1 : (rvS L f j).2.length < f) (h2 : M ∈ (rvS L f j).1) (h3 : 0 < M) : j < 20 * L.length := by
  refine rv_sum_end h h1 ?_
  have := (sum_nn fun x hx => (rv_nn h j x hx).1).2 M h2
  omega
theorem rvZ_max {L : List Int} {f : Nat} (h : rvOk L f) {j : Nat} {M : Int} (h1 : ∀ x ∈ (rvS L f j).1, x ≤ M) (h2 : ¬ 0 < M) : rvZ L f j := by
  refine .inr fun x hx => ?_
  have := h1 x hx
  have := (rv_nn h j x hx).1
  omega
theorem rvF_ok {L : List Int} {f : Nat} (h : rvOk L f) : rvOk (rvF L f).1 f ∧ (rvF L f).1.length = L.length := by
  have hI := rvI_all h (20 * L.length)
  exact ⟨⟨by show 1 ≤ (rvS _ _ _).1.length; rw [hI.len]; exact h.1, by show (rvS _ _ _).1.length ≤ 12; rw [hI.len]; exact h.2.1, rv_nn h _, h.2.2.2.1, h.2.2.2.2⟩, hI.len⟩
theorem rvF_sum {L : List Int} {f : Nat} (h : rvOk L f) : (rvF L f).1.sum + (rvF L f).2.length = L.sum ∧ (rvF L f).2.length ≤ f := ⟨(rvI_all h _).sum, (rvI_all h _).most⟩

/-- All frames, if there are not too many. -/
def rvG (f : Nat) : Nat → List Int → List (List Int) → Option (List (List Int))
  | 0, L, acc => if 0 < L.sum then none else some acc
  | k + 1, L, acc => if 0 < L.sum then rvG f k (rvF L f).1 (acc ++ [(rvF L f).2]) else some acc
theorem rvG_stop {f k : Nat} {L : List Int} {acc : List (List Int)} (h : ¬ 0 < L.sum) : rvG f k L acc = some acc := by
  cases k <;> rw [rvG, if_neg h]
theorem rvG_full {f : Nat} {L : List Int} {acc : List (List Int)} (h : 0 < L.sum) : rvG f 0 L acc = none := by rw [rvG, if_pos h]
theorem rvG_go {f k : Nat} {L : List Int} {acc : List (List Int)} (h : 0 < L.sum) : rvG f (k + 1) L acc = rvG f k (rvF L f).1 (acc ++ [(rvF L f).2]) := by rw [rvG, if_pos h]
theorem rv_pos_max {L : List Int} (h : ∀ x ∈ L, 0 ≤ x ∧ x ≤ 1000) {M : Int} (h1 : M ∈ L) (h2 : ∀ x ∈ L, x ≤ M) : 0 < M ↔ 0 < L.sum := by
  constructor
  · intro h3
    have := (sum_nn fun x hx => (h x hx).1).2 M h1
    omega
  · intro h3
    refine Int.not_le.1 fun h4 => ?_
    have : L.sum = 0 := sum_zero fun x hx => by have := h2 x hx; have := (h x hx).1; omega
    omega
def rvB (l : List Int) (f : Int) : Bool := ndB l && rgB 1 20 f
def rvO (l : List Int) (f : Int) : Option (List (List Int)) := if rvB l f then rvG f.toNat 300 l [] else none
theorem rvO_no {l : List Int} {f : Int} (h : ndB l = false ∨ rgB 1 20 f = false) : rvO l f = none := by
  have e : rvB l f = false := by unfold rvB; rcases h with h | h <;> rw [h] <;> simp
  unfold rvO; rw [e]; rfl
theorem rvO_yes {l : List Int} {f : Int} (h1 : ndB l = true) (h2 : rgB 1 20 f = true) : rvOk l f.toNat ∧ ((f.toNat : Nat) : Int) = f ∧ rvO l f = rvG f.toNat 300 l [] := by
  have e : rvB l f = true := by unfold rvB; rw [h1, h2]; rfl
  have a1 := anB_parts h1
  have a2 : 1 ≤ f ∧ f ≤ 20 := of_decide_eq_true h2
  exact ⟨⟨a1.1, a1.2.1, a1.2.2, by omega, by omega⟩, by omega, by unfold rvO; rw [e]; rfl⟩
end Go.Proofs.Ytjhgkkecconcaab
