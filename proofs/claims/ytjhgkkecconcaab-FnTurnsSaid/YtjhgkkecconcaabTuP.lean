/- Plain: turns: what the times and the frames tell of the needs. -/
import Derived.Test.YtjhgkkecconcaabRvP
namespace Go.Proofs.Ytjhgkkecconcaab
open Go Go.RowKit
set_option linter.unusedVariables false

theorem tmA_sum (l : List Int) (g : Int) : ∀ k, k ≤ l.length → tmA l g k = (l.take k).sum + g * k
  | 0, _ => by simp [tmA]
  | k + 1, hk => by
    have ih := tmA_sum l g k (by omega)
    rw [tmA, ih, getD_at (show k < l.length by omega), List.take_succ_eq_append_getElem (by omega), sum_snoc]
    have : g * ((k + 1 : Nat) : Int) = g * k + g := by rw [Int.natCast_add, Int.mul_add]; simp
    omega
/-- What is sent by then. -/
structure TkU (l : List Int) (s : TkS) : Prop where
  time : l.sum - s.left.sum ≤ s.time
  low : ∀ k (h : k < l.length), s.left.getD k 0 ≤ l[k]
  done : ∀ k (h : k < l.length), l[k] - s.left.getD k 0 ≤ s.done.getD k 0
  none : ∀ k (h : k < l.length), l[k] = 0 → s.done.getD k 0 = 0
  most : ∃ k, ∃ h : k < l.length, l.sum - s.left.sum ≤ s.done.getD k 0
theorem tkU_all {l : List Int} {hd g : Int} (h : tkOkS l hd g) : ∀ j, TkU l (tkS l hd g j)
  | 0 => by
    have h1 := h.1
    refine ⟨by simp [tkS, tkI], fun k hk => ?_, fun k hk => ?_, fun k hk _ => ?_, ⟨0, by omega, ?_⟩⟩
    · show l.getD k 0 ≤ _; rw [getD_at hk]; omega
    · show _ - l.getD k 0 ≤ (List.replicate l.length (0 : Int)).getD k 0
      rw [getD_at hk, getD_at (by simpa using hk)]; simp
    · show (List.replicate l.length (0 : Int)).getD k 0 = 0
      rw [getD_at (by simpa using hk)]; simp
    · show l.sum - l.sum ≤ (List.replicate l.length (0 : Int)).getD 0 0
      rw [getD_at (by simp; omega)]; simp
  | j + 1 => by
    have ih := tkU_all h j
    have hI := tkI_all h j
    have hS := tk_sum_next h j
    obtain ⟨h1, h2, h3, h4, h5, h6, h7⟩ := h
    obtain ⟨b1, b2, b3, b4, b5⟩ := hI
    obtain ⟨a1, a2, a3, a4, a5⟩ := ih
    have hm := Nat.mod_lt j (show 0 < l.length by omega)
    rw [tkS_succ] at hS ⊢
    generalize tkS l hd g j = s at *
    have hx := b3 (j % l.length) (by omega)
    have ex : s.left.getD (j % l.length) 0 = s.left[j % l.length]'(by omega) := getD_at (by omega)
    rw [← ex] at hx
    unfold tkN at hS ⊢
    dsimp only at hS ⊢
    generalize hxv : s.left.getD (j % l.length) 0 = x at *
    have hlk := a2 (j % l.length) hm
    rw [hxv] at hlk
    have hd1 := (sum_diff b1 a2 (j % l.length) hm).1
    rw [hxv] at hd1
    have hset : ∀ k, k < l.length → ∀ v, (s.left.set (j % l.length) v).getD k 0 = if j % l.length = k then v else s.left.getD k 0 := fun k hk v => getD_set _ _ _ _ (by omega) (by omega)
    have hdone : ∀ k, k < l.length → ∀ v, (s.done.set (j % l.length) v).getD k 0 = if j % l.length = k then v else s.done.getD k 0 := fun k hk v => getD_set _ _ _ _ (by omega) (by omega)
    refine ⟨by dsimp only; rw [hS]; omega, fun k hk => ?_, fun k hk => ?_, fun k hk h0 => ?_, ?_⟩
    · dsimp only
      rw [hset k hk]
      have := a2 k hk
      split
      · rename_i e; subst e; omega
      · exact this
    · dsimp only
      rw [hset k hk]
      by_cases e : j % l.length = k
      · rw [if_pos e]
        have := a3 k hk
        split
        · rw [hdone k hk, if_pos e]; subst e; omega
        · subst e; rw [hxv] at this; omega
      · rw [if_neg e]
        have := a3 k hk
        split
        · rw [hdone k hk, if_neg e]; exact this
        · exact this
    · dsimp only
      have := a4 k hk h0
      split
      · rename_i hx0
        rw [hdone k hk]
        split
        · rename_i e; subst e; omega
        · exact this
      · exact this
    · dsimp only
      rw [hS]
      by_cases hx0 : 0 < x
      · refine ⟨j % l.length, hm, ?_⟩
        rw [if_pos hx0, hdone _ hm, if_pos rfl]
        omega
      · obtain ⟨k, hk, hk2⟩ := a5
        refine ⟨k, hk, ?_⟩
        rw [if_neg hx0]; omega
theorem tk_turns {l : List Int} {hd g : Int} (h : tkOkS l hd g) : (∀ k (hk : k < l.length), l[k] ≤ (tkV0 l hd g).getD k 0 ∧ ((tkV0 l hd g).getD k 0 = 0 ↔ l[k] = 0)) ∧ l.sum ≤ mxL (tkV0 l hd g) := by
  have hz := tkZ_end h (Nat.le_refl (1000 * l.length))
  have hU := tkU_all h (1000 * l.length)
  have hI := tkI_all h (1000 * l.length)
  have h0 : ∀ k, k < l.length → (tkS l hd g (1000 * l.length)).left.getD k 0 = 0 := by
    intro k hk
    rw [getD_at (by rw [hI.len]; exact hk)]
    exact hz _ (List.getElem_mem _)
  have hs := sum_zero hz
  refine ⟨fun k hk => ?_, ?_⟩
  · have h1 := hU.done k hk
    rw [h0 k hk] at h1
    have h2 := hU.none k hk
    have h3 := h.2.2.1 l[k] (List.getElem_mem _)
    show _ ≤ (tkS l hd g (1000 * l.length)).done.getD k 0 ∧ ((tkS l hd g (1000 * l.length)).done.getD k 0 = 0 ↔ _)
    exact ⟨by omega, by omega, h2⟩
  · obtain ⟨k, hk, hk2⟩ := hU.most
    rw [hs] at hk2
    have h1 := (mxL_le (tkV0 l hd g) 0).2.1 ((tkV0 l hd g).getD k 0) (by
      rw [getD_at (by rw [(tkV0_nn h).1]; exact hk)]; exact List.getElem_mem _)
    unfold mxL
    have : l.sum ≤ (tkV0 l hd g).getD k 0 := by
      show _ ≤ (tkS l hd g (1000 * l.length)).done.getD k 0
      omega
    omega

/-- How often a station gets a slot. -/
def ctN (k : Nat) (L : List Int) : Int := (L.count (k : Int) : Nat)
theorem ctN_snoc (k : Nat) (L : List Int) (x : Int) : ctN k (L ++ [x]) = ctN k L + (if x = (k : Int) then 1 else 0) := by
  unfold ctN
  rw [List.count_append, List.count_singleton]
  by_cases h : x = (k : Int)
  · rw [if_pos h, h]; simp
  · rw [if_neg h, if_neg (by simpa using h)]; simp
theorem rv_count {L : List Int} {f : Nat} (h : rvOk L f) : ∀ j k, k < L.length → ctN k (rvS L f j).2 + (rvS L f j).1.getD k 0 = L.getD k 0
  | 0, k, hk => by simp [rvS, ctN]
  | j + 1, k, hk => by
    have ih := rv_count h j k hk
    have hI := rvI_all h j
    have hm := Nat.mod_lt j (show 0 < L.length by have := h.1; omega)
    rw [rvS]
    generalize rvS L f j = s at *
    unfold rvN
    split
    · rename_i hc
      dsimp only
      rw [ctN_snoc, getD_set _ _ _ _ (by rw [hI.len]; exact hm) (by rw [hI.len]; exact hk)]
      by_cases e : j % L.length = k
      · rw [if_pos (by rw [e]), if_pos e]; subst e; omega
      · rw [if_neg (by omega), if_neg e]; omega
    · exact ih
/-- Frames that are well laid: each has a slot, no more than there are, and all but the last are full. -/
def rvWell (f n : Nat) : List (List Int) → Prop
  | [] => True
  | [a] => 0 < a.length ∧ a.length ≤ f ∧ ∀ x ∈ a, 0 ≤ x ∧ x < n
  | a :: b :: t => (0 < a.length ∧ a.length = f ∧ ∀ x ∈ a, 0 ≤ x ∧ x < n) ∧ rvWell f n (b :: t)
def ctG (k : Nat) : List (List Int) → Int
  | [] => 0
  | a :: t => ctN k a + ctG k t
theorem ctG_snoc (k : Nat) (g : List (List Int)) (a : List Int) : ctG k (g ++ [a]) = ctG k g + ctN k a := by
  induction g with
  | nil => simp [ctG]
  | cons b t ih => rw [List.cons_append, ctG, ih, ctG, Int.add_assoc]
theorem rvWell_snoc {f n : Nat} : ∀ {g : List (List Int)} {a : List Int}, rvWell f n g → (∀ b ∈ g, b.length = f) → (0 < a.length ∧ a.length ≤ f ∧ ∀ x ∈ a, 0 ≤ x ∧ x < n) → rvWell f n (g ++ [a])
  | [], a, _, _, ha => ha
  | [b], a, h, hf, ha => ⟨⟨h.1, hf b (by simp), h.2.2⟩, ha⟩
  | b :: c :: t, a, h, hf, ha => ⟨h.1, rvWell_snoc (g := c :: t) h.2 (fun x hx => hf x (List.mem_cons_of_mem _ hx)) ha⟩
theorem rvG_well {f n : Nat} : ∀ (m : Nat) (L : List Int) (acc : List (List Int)), rvOk L f → L.length = n → rvWell f n acc → (0 < L.sum → ∀ b ∈ acc, b.length = f) → L.sum ≤ m →
    ∃ g, rvG f m L acc = some g ∧ rvWell f n g ∧ g.length ≤ acc.length + m ∧ ∀ k, k < n → ctG k g = ctG k acc + L.getD k 0
  | 0, L, acc, h, hn, hw, hf, hs => by
    have h0 : ¬ 0 < L.sum := by omega
    refine ⟨acc, rvG_stop h0, hw, by omega, fun k hk => ?_⟩
    have h1 := sum_nn fun x hx => (h.2.2.1 x hx).1
    have h2 := h1.2 (L[k]'(by omega)) (List.getElem_mem _)
    have h3 := (h.2.2.1 (L[k]'(by omega)) (List.getElem_mem _)).1
    rw [getD_at (by omega)]
    omega
  | m + 1, L, acc, h, hn, hw, hf, hs => by
    by_cases h0 : 0 < L.sum
    · rw [rvG_go h0]
      obtain ⟨hok, hlen⟩ := rvF_ok h
      obtain ⟨hsum, hmost⟩ := rvF_sum h
      have hI := rvI_all h (20 * L.length)
      have hZ := rvZ_of h (Nat.le_refl (20 * L.length))
      have hnn := (sum_nn fun x hx => (hok.2.2.1 x hx).1).1
      have hpos : 0 < (rvF L f).2.length := by
        refine Nat.pos_of_ne_zero fun e => ?_
        rcases hZ with hZ | hZ
        · have : (rvF L f).2.length = f := hZ
          have := h.2.2.2.1
          omega
        · have : (rvF L f).1.sum = 0 := sum_zero hZ
          omega
      have hfull : 0 < (rvF L f).1.sum → (rvF L f).2.length = f := by
        intro hp
        rcases hZ with hZ | hZ
        · exact hZ
        · have : (rvF L f).1.sum = 0 := sum_zero hZ
          omega
      have hmem : ∀ x ∈ (rvF L f).2, 0 ≤ x ∧ x < (n : Int) := by rw [← hn]; exact hI.mem
      obtain ⟨g, e1, e2, e3, e4⟩ := rvG_well m (rvF L f).1 (acc ++ [(rvF L f).2]) hok (hlen.trans hn) (rvWell_snoc hw (hf h0) ⟨hpos, hmost, hmem⟩)
        (fun hp b hb => by
          rcases List.mem_append.1 hb with hb | hb
          · exact hf h0 b hb
          · simp at hb; rw [hb]; exact hfull hp) (by omega)
      refine ⟨g, e1, e2, by rw [List.length_append] at e3; simp at e3; omega, fun k hk => ?_⟩
      rw [e4 k hk, ctG_snoc]
      have := rv_count h (20 * L.length) k (by omega)
      show _ + ctN k (rvS L f (20 * L.length)).2 + (rvS L f (20 * L.length)).1.getD k 0 = _
      omega
    · refine ⟨acc, rvG_stop h0, hw, by omega, fun k hk => ?_⟩
      have h1 := sum_nn fun x hx => (h.2.2.1 x hx).1
      have h2 := h1.2 (L[k]'(by omega)) (List.getElem_mem _)
      have h3 := (h.2.2.1 (L[k]'(by omega)) (List.getElem_mem _)).1
      rw [getD_at (by omega)]
      omega
end Go.Proofs.Ytjhgkkecconcaab
