/- Plain: great numbers: made of small ones, added, divided by small ones. -/
import Derived.Test.YtmhdjimdhcephabBgP
namespace Go.Proofs.Ytmhdjimdhcephab
open Go Go.RowKit
set_option linter.unusedVariables false

theorem bg_nil : BG [] := ⟨fun d hd => by simp at hd, fun h => absurd rfl h⟩
theorem getD_snoc (L : List Int) (x : Int) : (L ++ [x]).getD (L ++ [x]).length.pred 0 = x := by
  rw [List.length_append, List.length_singleton, Nat.pred_succ]
  simp [List.getD]
theorem bg_snoc {L : List Int} {x : Int} (h : BD L) (hx : 0 ≤ x ∧ x ≤ 999999999) (h0 : x ≠ 0) : BG (L ++ [x]) :=
  ⟨h.snoc x hx, fun _ => by rw [show (L ++ [x]).length - 1 = (L ++ [x]).length.pred from rfl, getD_snoc]; exact h0⟩
/-- A number under way to digits. -/
structure OfI (n : Int) (L : List Int) (m : Int) : Prop where
  dig : BD L
  m0 : 0 ≤ m
  eq : bv L + m * 1000000000 ^ L.length = n
  last : 0 < m ∨ BG L
  len : L.length ≤ 3
theorem ofI_zero {n : Int} (h : 0 ≤ n) : OfI n [] n := ⟨fun d hd => by simp at hd, h, by simp [bv], .inr bg_nil, by simp⟩
theorem ofI_next {n : Int} {L : List Int} {m : Int} (h : OfI n L m) (hn : n ≤ 1000000000000000000) (hm : 0 < m) : OfI n (L ++ [m % 1000000000]) (m / 1000000000) := by
  obtain ⟨h1, h2, h3, h4, h5⟩ := h
  have e1 := Int.mul_ediv_add_emod m 1000000000
  have hd : 0 ≤ m % 1000000000 ∧ m % 1000000000 ≤ 999999999 := by omega
  have hl : L.length ≤ 2 := by
    refine Nat.not_lt.1 fun hl => ?_
    have e : L.length = 3 := by omega
    rw [e] at h3
    have h6 := (bv_bd h1).1
    have h7 : (1000000000 : Int) ^ 3 = 1000000000000000000000000000 := by decide
    rw [h7] at h3
    omega
  refine ⟨h1.snoc _ hd, by omega, ?_, ?_, by simp; omega⟩
  · rw [bv_snoc, List.length_append, List.length_singleton, pw_succ]
    have e2 : m / 1000000000 * (1000000000 * 1000000000 ^ L.length) = (1000000000 * (m / 1000000000)) * 1000000000 ^ L.length := by rw [← Int.mul_assoc, Int.mul_comm (m / 1000000000)]
    rw [e2, Int.add_assoc, ← Int.add_mul]
    rw [show m % 1000000000 + 1000000000 * (m / 1000000000) = m by omega]
    exact h3
  · by_cases h0 : 0 < m / 1000000000
    · exact .inl h0
    · exact .inr (bg_snoc h1 hd (by omega))
theorem ofI_end {n : Int} {L : List Int} {m : Int} (h : OfI n L m) (hm : ¬ 0 < m) : BG L ∧ bv L = n := by
  obtain ⟨h1, h2, h3, h4, h5⟩ := h
  have : m = 0 := by omega
  subst this
  exact ⟨by rcases h4 with h | h; · omega
            · exact h, by simpa using h3⟩
/-- Digits 0 at the end are cut off. -/
theorem trim_end {L : List Int} (h : BD L) {m : Nat} (hm : m ≤ L.length) (hz : ∀ j, m ≤ j → L.getD j 0 = 0) (hl : m = 0 ∨ L.getD (m - 1) 0 ≠ 0) : BG (L.take m) ∧ bv (L.take m) = bv L ∧ (L.take m).length = m := by
  have hlen : (L.take m).length = m := by rw [List.length_take]; omega
  refine ⟨⟨h.take m, fun hne => ?_⟩, bv_cut L m hz, hlen⟩
  rw [hlen]
  have h0 : 0 < m := by
    rcases Nat.eq_zero_or_pos m with e | e
    · subst e; simp at hne
    · exact e
  have e : (L.take m).getD (m - 1) 0 = L.getD (m - 1) 0 := by
    rw [getD_lt (by omega), getD_lt (by omega), List.getElem_take]
  rw [e]
  omega
theorem trim_next {L : List Int} {m : Nat} (hz : ∀ j, m ≤ j → L.getD j 0 = 0) (h : L.getD (m - 1) 0 = 0) : ∀ j, m - 1 ≤ j → L.getD j 0 = 0 := by
  intro j hj
  by_cases e : m ≤ j
  · exact hz j e
  · rw [show j = m - 1 by omega]; exact h
/-- A sum under way. -/
structure PlI (a b : List Int) (i : Nat) (out : List Int) (c : Int) : Prop where
  len : out.length = i
  dig : BD out
  c0 : 0 ≤ c ∧ c ≤ 1
  eq : bv out + c * 1000000000 ^ i = bv (a.take i) + bv (b.take i)
  top : i ≤ max a.length b.length ∨ i = max a.length b.length + 1 ∧ c = 0 ∧ BG out
theorem plI_zero (a b : List Int) : PlI a b 0 [] 0 := ⟨rfl, fun d hd => by simp at hd, by omega, by simp [bv], .inl (Nat.zero_le _)⟩
def plS (a b : List Int) (c : Int) (i : Nat) : Int := c + a.getD i 0 + b.getD i 0
theorem plS_bd {a b : List Int} {c : Int} {i : Nat} (ha : BD a) (hb : BD b) (hc : 0 ≤ c ∧ c ≤ 1) : 0 ≤ plS a b c i ∧ plS a b c i ≤ 1999999999 := by
  have := ha.at i
  have := hb.at i
  unfold plS
  omega
theorem bv_take' (L : List Int) (k : Nat) : bv (L.take (k + 1)) = bv (L.take k) + L.getD k 0 * 1000000000 ^ k := by
  by_cases h : k < L.length
  · exact bv_take L k h
  · rw [List.take_of_length_le (by omega), List.take_of_length_le (by omega), getD_ge (by omega)]; simp
theorem plI_next {a b : List Int} {i : Nat} {out : List Int} {c : Int} (ha : BD a) (hb : BD b) (h : PlI a b i out c) (hg : i < a.length ∨ i < b.length ∨ 0 < c) :
    PlI a b (i + 1) (out ++ [plS a b c i % 1000000000]) (plS a b c i / 1000000000) := by
  obtain ⟨h1, h2, h3, h4, h5⟩ := h
  have hs := plS_bd (i := i) ha hb h3
  have e1 := Int.mul_ediv_add_emod (plS a b c i) 1000000000
  refine ⟨by simp [h1], h2.snoc _ (by omega), by omega, ?_, ?_⟩
  · rw [bv_snoc, bv_take', bv_take', h1, pw_succ]
    have e2 : plS a b c i / 1000000000 * (1000000000 * 1000000000 ^ i) = (1000000000 * (plS a b c i / 1000000000)) * 1000000000 ^ i := by rw [← Int.mul_assoc, Int.mul_comm (plS a b c i / 1000000000)]
    rw [e2, Int.add_assoc, ← Int.add_mul]
    rw [show plS a b c i % 1000000000 + 1000000000 * (plS a b c i / 1000000000) = c + a.getD i 0 + b.getD i 0 by unfold plS at *; omega]
    rw [Int.add_mul, Int.add_mul]
    omega
  · by_cases hi : i < max a.length b.length
    · exact .inl (by omega)
    · have hc : c = 1 := by omega
      have e : plS a b c i = 1 := by unfold plS; rw [getD_ge (by omega), getD_ge (by omega)]; omega
      rw [e]
      exact .inr ⟨by omega, by decide, bg_snoc h2 (by decide) (by decide)⟩
theorem plI_end {a b : List Int} {i : Nat} {out : List Int} {c : Int} (ha : BG a) (hb : BG b) (h : PlI a b i out c) (hg : ¬ (i < a.length ∨ i < b.length ∨ 0 < c)) : BG out ∧ bv out = bv a + bv b ∧ out.length ≤ max a.length b.length + 1 := by
  obtain ⟨h1, h2, h3, h4, h5⟩ := h
  have hc : c = 0 := by omega
  subst hc
  rw [List.take_of_length_le (by omega), List.take_of_length_le (by omega)] at h4
  simp at h4
  refine ⟨?_, h4, by omega⟩
  rcases h5 with h5 | ⟨-, -, h5⟩
  · refine ⟨h2, fun hne => ?_⟩
    have hl : 0 < out.length := List.length_pos_iff.2 hne
    intro e0
    -- else it would be too small
    have h6 := bv_cut out (out.length - 1) (fun j hj => by
      by_cases e : j = out.length - 1
      · rw [e]; exact e0
      · exact getD_ge (by omega))
    have h7 := (bv_bd (h2.take (out.length - 1))).2
    rw [h6, List.length_take, Nat.min_eq_left (by omega)] at h7
    have h8 := (bv_bd ha.1).1
    have h9 := (bv_bd hb.1).1
    by_cases hm : b.length ≤ a.length
    · have hl2 : a.length = out.length := by omega
      have := bv_low ha (by intro e; rw [e] at hl2; simp at hl2; omega)
      rw [hl2] at this
      omega
    · have hl2 : b.length = out.length := by omega
      have := bv_low hb (by intro e; rw [e] at hl2; simp at hl2; omega)
      rw [hl2] at this
      omega
  · exact h5
/-- A quotient under way: the digits from i on have been divided. -/
structure ByI (a : List Int) (n : Int) (i : Nat) (out : List Int) (r : Int) : Prop where
  len : out.length = a.length
  le : i ≤ a.length
  dig : BD out
  r0 : 0 ≤ r ∧ r < n
  low : ∀ j, j < i → out.getD j 0 = 0
  eq : bv a = n * bv out + r * 1000000000 ^ i + bv (a.take i)
theorem byI_zero (a : List Int) (n : Int) (hn : 1 ≤ n) : ByI a n a.length (List.replicate a.length 0) 0 := by
  have hz : ∀ n, bv (List.replicate n 0) = 0 := by
    intro n
    induction n with
    | zero => rfl
    | succ n ih => rw [List.replicate_succ, bv, ih]; rfl
  refine ⟨by simp, Nat.le_refl _, fun d hd => by simp [List.mem_replicate] at hd; omega, by omega, fun j hj => ?_, by rw [hz, List.take_length]; simp⟩
  rw [getD_lt (by simpa using hj)]; simp
theorem byI_next {a : List Int} {n : Int} {i : Nat} {out : List Int} {r : Int} (ha : BD a) (hn : 1 ≤ n ∧ n ≤ 1000000000) (h : ByI a n (i + 1) out r) :
    ByI a n i (out.set i ((r * 1000000000 + a.getD i 0) / n)) ((r * 1000000000 + a.getD i 0) % n) ∧ 0 ≤ r * 1000000000 + a.getD i 0 ∧ r * 1000000000 + a.getD i 0 ≤ 1000000000000000000 := by
  obtain ⟨h1, h2, h3, h4, h5, h6⟩ := h
  have hd := ha.at i
  have hT : 0 ≤ r * 1000000000 + a.getD i 0 ∧ r * 1000000000 + a.getD i 0 < 1000000000 * n := by omega
  have e1 := Int.mul_ediv_add_emod (r * 1000000000 + a.getD i 0) n
  have e2 := Int.emod_nonneg (r * 1000000000 + a.getD i 0) (show n ≠ 0 by omega)
  have e3 := Int.emod_lt_of_pos (r * 1000000000 + a.getD i 0) (show 0 < n by omega)
  have e4 : 0 ≤ (r * 1000000000 + a.getD i 0) / n := Int.ediv_nonneg hT.1 (by omega)
  have e5 : (r * 1000000000 + a.getD i 0) / n < 1000000000 := by rw [Int.ediv_lt_iff_lt_mul (by omega)]; exact hT.2
  rw [bv_take'] at h6
  refine ⟨⟨by rw [List.length_set]; exact h1, by omega, h3.set _ _ (by omega), ⟨e2, e3⟩, fun j hj => ?_, ?_⟩, hT.1, by omega⟩
  · rw [set_getD _ _ _ _ (by omega), if_neg (by omega)]
    exact h5 j (by omega)
  · rw [bv_set _ _ _ (by omega), h5 i (by omega), h6]
    generalize (r * 1000000000 + a.getD i 0) / n = q at *
    generalize hR : (r * 1000000000 + a.getD i 0) % n = R at *
    rw [pw_succ, Int.mul_add, Int.sub_zero]
    have e6 : r * (1000000000 * 1000000000 ^ i) + a.getD i 0 * 1000000000 ^ i = (n * q + R) * 1000000000 ^ i := by
      rw [← Int.mul_assoc, ← Int.add_mul, e1]
    have e7 : n * (q * 1000000000 ^ i) = n * q * 1000000000 ^ i := by rw [Int.mul_assoc]
    rw [Int.add_mul] at e6
    omega
theorem byI_end {a : List Int} {n : Int} {out : List Int} {r : Int} (h : ByI a n 0 out r) : bv out = bv a / n ∧ r = bv a % n := by
  obtain ⟨h1, h2, h3, h4, h5, h6⟩ := h
  simp [bv] at h6
  have := (Int.ediv_emod_unique (a := bv a) (r := r) (q := bv out) (show 0 < n by omega)).2 ⟨by omega, h4.1, h4.2⟩
  exact ⟨this.1.symm, this.2.symm⟩
end Go.Proofs.Ytmhdjimdhcephab
