/- Plain: stations that send with a token: the end, and the greatest time. -/
import Derived.Test.YtjhgkkecconcaabTkP
namespace Go.Proofs.Ytjhgkkecconcaab
open Go Go.RowKit
set_option linter.unusedVariables false

theorem sum_snoc (l : List Int) (x : Int) : (l ++ [x]).sum = l.sum + x := by simp
theorem sum_set (l : List Int) (i : Nat) (v : Int) (h : i < l.length) : (l.set i v).sum = l.sum - l[i] + v := by
  induction l generalizing i with
  | nil => simp at h
  | cons a t ih =>
    cases i with
    | zero => simp; omega
    | succ i => simp only [List.set_cons_succ, List.sum_cons, List.getElem_cons_succ]; rw [ih i (by simpa using h)]; omega
theorem sum_nn {l : List Int} (h : ∀ x ∈ l, 0 ≤ x) : 0 ≤ l.sum ∧ ∀ x ∈ l, x ≤ l.sum := by
  induction l with
  | nil => simp
  | cons a t ih =>
    obtain ⟨h1, h2⟩ := ih fun x hx => h x (List.mem_cons_of_mem _ hx)
    have h3 := h a List.mem_cons_self
    rw [List.sum_cons]
    refine ⟨by omega, fun x hx => ?_⟩
    rcases List.mem_cons.1 hx with rfl | hx
    · omega
    · have := h2 x hx; omega
theorem sum_zero {l : List Int} (h : ∀ x ∈ l, x = 0) : l.sum = 0 := by
  induction l with
  | nil => rfl
  | cons a t ih => rw [List.sum_cons, ih fun x hx => h x (List.mem_cons_of_mem _ hx), h a List.mem_cons_self]; rfl
theorem sum_bd {l : List Int} {c : Int} (hc : 0 ≤ c) (h : ∀ x ∈ l, x ≤ c) : l.sum ≤ c * l.length := by
  induction l with
  | nil => simp
  | cons a t ih =>
    have h1 := ih fun x hx => h x (List.mem_cons_of_mem _ hx)
    have h2 := h a List.mem_cons_self
    rw [List.sum_cons, List.length_cons, Int.natCast_add, Int.mul_add]
    simp only [Int.natCast_one, Int.mul_one]
    omega
def mxL (l : List Int) : Int := l.foldl max 0
theorem mxL_le (l : List Int) (c : Int) : c ≤ l.foldl max c ∧ (∀ x ∈ l, x ≤ l.foldl max c) ∧ (l.foldl max c = c ∨ l.foldl max c ∈ l) := by
  induction l generalizing c with
  | nil => simp
  | cons a t ih =>
    obtain ⟨h1, h2, h3⟩ := ih (max c a)
    simp only [List.foldl_cons]
    refine ⟨by omega, fun x hx => ?_, ?_⟩
    · rcases List.mem_cons.1 hx with rfl | hx
      · omega
      · exact h2 x hx
    · rcases h3 with h3 | h3
      · rw [h3]
        by_cases e : c ≤ a
        · exact .inr (by rw [show max c a = a by omega]; exact List.mem_cons_self)
        · exact .inl (by omega)
      · exact .inr (List.mem_cons_of_mem _ h3)
theorem mxL_is {l : List Int} {M : Int} (h0 : 0 ≤ M) (h1 : M ∈ l) (h2 : ∀ x ∈ l, x ≤ M) : mxL l = M := by
  obtain ⟨a1, a2, a3⟩ := mxL_le l 0
  have := a2 M h1
  unfold mxL
  rcases a3 with h | h
  · omega
  · have := h2 _ h; omega

/-- Nothing is left. -/
def tkZ (l : List Int) (hd g : Int) (j : Nat) : Prop := ∀ x ∈ (tkS l hd g j).left, x = 0
theorem tkS_succ (l : List Int) (hd g : Int) (j : Nat) : tkS l hd g (j + 1) = tkN l.length hd g j (tkS l hd g j) := rfl
theorem tkZ_stay {l : List Int} {hd g : Int} (h : tkOkS l hd g) {j : Nat} (hz : tkZ l hd g j) : tkZ l hd g (j + 1) ∧ (tkS l hd g (j + 1)).done = (tkS l hd g j).done := by
  have hI := tkI_all h j
  have hm := Nat.mod_lt j (show 0 < l.length by have := h.1; omega)
  have e : (tkS l hd g j).left.getD (j % l.length) 0 = 0 := by
    rw [getD_at (by rw [hI.len]; exact hm)]
    exact hz _ (List.getElem_mem _)
  have hh := h.2.2.2.1
  constructor
  · intro x hx
    rw [tkS_succ] at hx
    unfold tkN at hx
    rw [e] at hx
    dsimp only at hx
    rcases List.mem_or_eq_of_mem_set hx with hx | hx
    · exact hz x hx
    · omega
  · rw [tkS_succ]
    unfold tkN
    rw [e]
    simp
theorem tkZ_later {l : List Int} {hd g : Int} (h : tkOkS l hd g) {j : Nat} (hz : tkZ l hd g j) : ∀ d, tkZ l hd g (j + d) ∧ (tkS l hd g (j + d)).done = (tkS l hd g j).done
  | 0 => ⟨hz, rfl⟩
  | d + 1 => by
    obtain ⟨h1, h2⟩ := tkZ_later h hz d
    obtain ⟨h3, h4⟩ := tkZ_stay h h1
    exact ⟨h3, h4.trans h2⟩
theorem tkZ_end {l : List Int} {hd g : Int} (h : tkOkS l hd g) {j : Nat} (hj : 1000 * l.length ≤ j) : tkZ l hd g j := by
  have h0 : tkZ l hd g (1000 * l.length) := by
    intro x hx
    have hI := tkI_all h (1000 * l.length)
    obtain ⟨k, hk, rfl⟩ := List.getElem_of_mem hx
    have := hI.low k hk
    have e : tnS l.length (1000 * l.length) k = 1000 := by
      unfold tnS
      rw [Nat.mul_mod_left, Nat.mul_div_cancel _ (show 0 < l.length by have := h.1; omega)]
      simp
    rw [e] at this
    omega
  obtain ⟨d, rfl⟩ : ∃ d, j = 1000 * l.length + d := ⟨j - 1000 * l.length, by omega⟩
  exact (tkZ_later h h0 d).1
def tkV0 (l : List Int) (hd g : Int) : List Int := (tkS l hd g (1000 * l.length)).done
theorem tkZ_done {l : List Int} {hd g : Int} (h : tkOkS l hd g) {j : Nat} (hz : tkZ l hd g j) : (tkS l hd g j).done = tkV0 l hd g := by
  unfold tkV0
  by_cases hj : j ≤ 1000 * l.length
  · obtain ⟨d, e⟩ : ∃ d, 1000 * l.length = j + d := ⟨1000 * l.length - j, by omega⟩
    rw [e]; exact (tkZ_later h hz d).2.symm
  · obtain ⟨d, e⟩ : ∃ d, j = 1000 * l.length + d := ⟨j - 1000 * l.length, by omega⟩
    rw [e]; exact (tkZ_later h (tkZ_end h (Nat.le_refl _)) d).2
theorem tk_sum_end {l : List Int} {hd g : Int} (h : tkOkS l hd g) {j : Nat} (hp : 0 < (tkS l hd g j).left.sum) : j < 1000 * l.length := by
  refine Nat.lt_of_not_le fun hj => ?_
  have := sum_zero (tkZ_end h hj)
  omega
theorem tk_nn {l : List Int} {hd g : Int} (h : tkOkS l hd g) (j : Nat) : ∀ x ∈ (tkS l hd g j).left, 0 ≤ x ∧ x ≤ 1000 := by
  intro x hx
  obtain ⟨k, hk, rfl⟩ := List.getElem_of_mem hx
  have := (tkI_all h j).low k hk
  omega
theorem tk_sum_zero {l : List Int} {hd g : Int} (h : tkOkS l hd g) {j : Nat} (hp : ¬ 0 < (tkS l hd g j).left.sum) : tkZ l hd g j := by
  intro x hx
  have h1 := sum_nn fun x hx => (tk_nn h j x hx).1
  have := h1.2 x hx
  have := (tk_nn h j x hx).1
  omega
theorem tk_sum_bd {l : List Int} {hd g : Int} (h : tkOkS l hd g) (j : Nat) : 0 ≤ (tkS l hd g j).left.sum ∧ (tkS l hd g j).left.sum ≤ 12000 := by
  have h1 := sum_nn fun x hx => (tk_nn h j x hx).1
  have h2 := sum_bd (c := 1000) (by decide) fun x hx => (tk_nn h j x hx).2
  have h3 := (tkI_all h j).len
  have h4 := h.2.1
  refine ⟨h1.1, ?_⟩
  rw [h3] at h2
  omega
theorem tk_sum_next {l : List Int} {hd g : Int} (h : tkOkS l hd g) (j : Nat) : (tkS l hd g (j + 1)).left.sum = (tkS l hd g j).left.sum - min ((tkS l hd g j).left.getD (j % l.length) 0) hd := by
  have hm := Nat.mod_lt j (show 0 < l.length by have := h.1; omega)
  have hI := tkI_all h j
  rw [tkS_succ]
  unfold tkN
  rw [sum_set _ _ _ (by rw [hI.len]; exact hm), getD_at (by rw [hI.len]; exact hm)]
  omega
theorem tk_max_end {l : List Int} {hd g : Int} (h : tkOkS l hd g) {j : Nat} {M : Int} (h1 : M ∈ (tkS l hd g j).left) (h2 : 0 < M) : j < 1000 * l.length := by
  refine Nat.lt_of_not_le fun hj => ?_
  have := tkZ_end h hj M h1
  omega
theorem tk_max_zero {l : List Int} {hd g : Int} (h : tkOkS l hd g) {j : Nat} {M : Int} (h1 : ∀ x ∈ (tkS l hd g j).left, x ≤ M) (h2 : ¬ 0 < M) : tkZ l hd g j := by
  intro x hx
  have := h1 x hx
  have := (tk_nn h j x hx).1
  omega
theorem tkV0_nn {l : List Int} {hd g : Int} (h : tkOkS l hd g) : (tkV0 l hd g).length = l.length ∧ ∀ x ∈ tkV0 l hd g, 0 ≤ x := by
  have hI := tkI_all h (1000 * l.length)
  refine ⟨hI.dlen, fun x hx => ?_⟩
  obtain ⟨k, hk, rfl⟩ := List.getElem_of_mem hx
  exact (hI.done k hk).1
theorem tk_max {l : List Int} {hd g : Int} (h : tkOkS l hd g) {M : Int} (h1 : M ∈ tkV0 l hd g) (h2 : ∀ x ∈ tkV0 l hd g, x ≤ M) : mxL (tkV0 l hd g) = M := mxL_is ((tkV0_nn h).2 M h1) h1 h2

/-- What the model tells: when stations have sent all, and the last time. -/
def tkE (l : List Int) (hd g : Int) : Nat → List Int × Int
  | 0 => (List.replicate l.length 0, 0)
  | j + 1 =>
    let s := tkS l hd g j
    let x := min (s.left.getD (j % l.length) 0) hd
    if 0 < x ∧ s.left.getD (j % l.length) 0 - x = 0 then ((tkE l hd g j).1.set (j % l.length) (s.time + x), s.time + x) else tkE l hd g j
structure TkJ (l : List Int) (s : TkS) (e : List Int × Int) : Prop where
  len : e.1.length = l.length
  at' : ∀ k (h : k < e.1.length), e.1[k] = if s.left.getD k 0 = 0 then s.done.getD k 0 else 0
  le : ∀ k (h : k < e.1.length), e.1[k] ≤ e.2
  time : 0 ≤ e.2 ∧ e.2 ≤ s.time
  is : ∃ k, ∃ h : k < e.1.length, e.1[k] = e.2
theorem tkJ_all {l : List Int} {hd g : Int} (h : tkOkS l hd g) : ∀ j, TkJ l (tkS l hd g j) (tkE l hd g j)
  | 0 => by
    have h1 := h.1
    refine ⟨by simp [tkE], fun k hk => ?_, fun k hk => by simp [tkE], by simp [tkE, tkS, tkI], ⟨0, by simp [tkE]; omega, by simp [tkE]⟩⟩
    have hk' : k < l.length := by simpa [tkE] using hk
    simp [tkE, tkS, tkI, List.getD, hk']
  | j + 1 => by
    have ih := tkJ_all h j
    have hI := tkI_all h j
    have hI2 := tkI_all h (j + 1)
    obtain ⟨h1, h2, h3, h4, h5, h6, h7⟩ := h
    obtain ⟨a1, a2, a3, a4, a5⟩ := ih
    obtain ⟨b1, b2, b3, b4, b5⟩ := hI
    have hm := Nat.mod_lt j (show 0 < l.length by omega)
    rw [tkS_succ] at hI2 ⊢
    rw [tkE]
    generalize tkS l hd g j = s at *
    generalize tkE l hd g j = e at *
    have hx := b3 (j % l.length) (by omega)
    have ex : s.left.getD (j % l.length) 0 = s.left[j % l.length]'(by omega) := getD_at (by omega)
    unfold tkN
    simp only [ex]
    generalize hxv : s.left[j % l.length]'(by omega) = x at *
    have hset : ∀ k, k < l.length → ∀ v, (s.left.set (j % l.length) v).getD k 0 = if j % l.length = k then v else s.left.getD k 0 := by
      intro k hk v
      rw [getD_at (by rw [List.length_set, b1]; exact hk), getD_at (by rw [b1]; exact hk), List.getElem_set]
    have hdone : ∀ k, k < l.length → ∀ v, (s.done.set (j % l.length) v).getD k 0 = if j % l.length = k then v else s.done.getD k 0 := by
      intro k hk v
      rw [getD_at (by rw [List.length_set, b2]; exact hk), getD_at (by rw [b2]; exact hk), List.getElem_set]
    by_cases hc : 0 < min x hd ∧ x - min x hd = 0
    · rw [if_pos hc]
      have hx0 : 0 < x := by omega
      refine ⟨by simp [a1], fun k hk => ?_, fun k hk => ?_, ⟨by dsimp only; omega, by dsimp only; omega⟩, ⟨j % l.length, by simp [a1, hm], by simp⟩⟩
      · dsimp only at hk ⊢
        have hk' : k < l.length := by simpa [a1] using hk
        rw [if_pos hx0, hset k hk', hdone k hk', List.getElem_set]
        by_cases ek : j % l.length = k
        · rw [if_pos ek, if_pos ek, if_pos ek, if_pos hc.2]
        · rw [if_neg ek, if_neg ek, if_neg ek]
          exact a2 k (by omega)
      · dsimp only at hk ⊢
        have hk' : k < l.length := by simpa [a1] using hk
        rw [List.getElem_set]
        split
        · omega
        · have := a3 k (by omega); omega
    · rw [if_neg hc]
      refine ⟨a1, fun k hk => ?_, a3, ⟨a4.1, by dsimp only; omega⟩, a5⟩
      have hk' : k < l.length := by omega
      dsimp only
      rw [hset k hk']
      by_cases ek : j % l.length = k
      · rw [if_pos ek, a2 k hk]
        by_cases hx0 : 0 < x
        · rw [if_neg (show ¬ x - min x hd = 0 by omega)]
          rw [if_neg]
          rw [← ek, ex]; omega
        · rw [if_neg hx0]
          have : x = 0 := by omega
          rw [if_pos (show x - min x hd = 0 by omega), if_pos (by rw [← ek, ex]; exact this)]
      · rw [if_neg ek, a2 k hk]
        split
        · split
          · rw [hdone k hk', if_neg ek]
          · rfl
        · rfl
theorem tkE_end {l : List Int} {hd g : Int} (h : tkOkS l hd g) {j : Nat} (hz : tkZ l hd g j) : (tkE l hd g j).1 = tkV0 l hd g ∧ (tkE l hd g j).2 = mxL (tkV0 l hd g) := by
  have hJ := tkJ_all h j
  have hI := tkI_all h j
  have e : (tkE l hd g j).1 = tkV0 l hd g := by
    rw [← tkZ_done h hz]
    refine List.ext_getElem (by rw [hJ.len, hI.dlen]) fun k h1 h2 => ?_
    rw [hJ.at' k h1, if_pos, getD_at h2]
    rw [getD_at (by rw [hI.len, ← hJ.len]; exact h1)]
    exact hz _ (List.getElem_mem _)
  refine ⟨e, ?_⟩
  obtain ⟨k, hk, ek⟩ := hJ.is
  refine (mxL_is hJ.time.1 ?_ ?_).symm
  · rw [← ek, ← e]; exact List.getElem_mem _
  · intro x hx
    rw [← e] at hx
    obtain ⟨i, hi, rfl⟩ := List.getElem_of_mem hx
    exact hJ.le i hi
def tkOk (l : List Int) (hd g : Int) : Bool := ndB l && (rgB 1 1000 hd && rgB 0 1000 g)
def tkV (l : List Int) (hd g : Int) : List Int := if tkOk l hd g then tkV0 l hd g else []
def tkT (l : List Int) (hd g : Int) : Int := if tkOk l hd g then mxL (tkV0 l hd g) else 0
theorem tkOk_no {l : List Int} {hd g : Int} (h : ndB l = false ∨ rgB 1 1000 hd = false ∨ rgB 0 1000 g = false) : tkOk l hd g = false ∧ tkV l hd g = [] ∧ tkT l hd g = 0 := by
  have e : tkOk l hd g = false := by unfold tkOk; rcases h with h | h | h <;> rw [h] <;> simp
  exact ⟨e, by unfold tkV; rw [e]; rfl, by unfold tkT; rw [e]; rfl⟩
theorem tkOk_yes {l : List Int} {hd g : Int} (h1 : ndB l = true) (h2 : rgB 1 1000 hd = true) (h3 : rgB 0 1000 g = true) : tkOkS l hd g ∧ tkOk l hd g = true ∧ tkV l hd g = tkV0 l hd g ∧ tkT l hd g = mxL (tkV0 l hd g) := by
  have e : tkOk l hd g = true := by unfold tkOk; rw [h1, h2, h3]; rfl
  have a1 := anB_parts h1
  have a2 : 1 ≤ hd ∧ hd ≤ 1000 := of_decide_eq_true h2
  have a3 : 0 ≤ g ∧ g ≤ 1000 := of_decide_eq_true h3
  exact ⟨⟨a1.1, a1.2.1, a1.2.2, a2.1, a2.2, a3.1, a3.2⟩, e, by unfold tkV; rw [e]; rfl, by unfold tkT; rw [e]; rfl⟩
theorem tkV_len (l : List Int) (hd g : Int) : (tkV l hd g).length ≤ 12 := by
  unfold tkV
  split
  · rename_i h
    unfold tkOk at h
    obtain ⟨h1, h2⟩ := Bool.and_eq_true_iff.1 h
    obtain ⟨h3, h4⟩ := Bool.and_eq_true_iff.1 h2
    obtain ⟨hk, -⟩ := tkOk_yes h1 h3 h4
    rw [(tkV0_nn hk).1]
    exact hk.2.1
  · simp
end Go.Proofs.Ytjhgkkecconcaab
