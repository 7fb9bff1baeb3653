/- Plain: the slots of stations, counted frame by frame. -/
import Derived.Test.YtjhgkkecconcaabTuP
namespace Go.Proofs.Ytjhgkkecconcaab
open Go Go.RowKit
set_option linter.unusedVariables false

theorem rvWell_at {f n : Nat} : ∀ {g : List (List Int)}, rvWell f n g → ∀ i, i < g.length → 0 < (g.getD i []).length ∧ (g.getD i []).length ≤ f ∧ (∀ x ∈ g.getD i [], 0 ≤ x ∧ x < n) ∧ (i + 1 < g.length → (g.getD i []).length = f)
  | [], _, i, hi => by simp at hi
  | [a], h, i, hi => by
    have : i = 0 := by simp at hi; omega
    subst this
    simp only [List.getD_cons_zero]
    exact ⟨h.1, h.2.1, h.2.2, fun h' => by simp at h'⟩
  | a :: b :: t, h, 0, _ => by
    simp only [List.getD_cons_zero]
    exact ⟨h.1.1, Nat.le_of_eq h.1.2.1, h.1.2.2, fun _ => h.1.2.1⟩
  | a :: b :: t, h, i + 1, hi => by
    have := rvWell_at (g := b :: t) h.2 i (by simpa using hi)
    simp only [List.getD_cons_succ]
    exact ⟨this.1, this.2.1, this.2.2.1, fun h' => this.2.2.2 (by simpa using h')⟩
/-- How many slots station s has got in the frames before the i-th one, and in the first k slots of that. -/
def ctF (G : List (List Int)) (i k s : Nat) : Int := ctG s (G.take i) + ctN s ((G.getD i []).take k)
def gtL (n : Nat) (G : List (List Int)) (i k : Nat) : List Int := (List.range n).map (ctF G i k)
theorem gtL_len (n : Nat) (G : List (List Int)) (i k : Nat) : (gtL n G i k).length = n := by simp [gtL]
theorem gtL_at (n : Nat) (G : List (List Int)) (i k s : Nat) (h : s < (gtL n G i k).length) : (gtL n G i k)[s] = ctF G i k s := by simp [gtL]
theorem gtL_ext {n : Nat} {l : List Int} {G : List (List Int)} {i k : Nat} (hl : l.length = n) (h : ∀ s (hs : s < l.length), l[s] = ctF G i k s) : l = gtL n G i k := by
  refine List.ext_getElem (by rw [gtL_len, hl]) fun s h1 h2 => ?_
  rw [gtL_at, h s h1]
theorem ctF_next {G : List (List Int)} {i k X : Nat} (hk : k < (G.getD i []).length) (hX : (G.getD i []).getD k 0 = (X : Int)) (s : Nat) : ctF G i (k + 1) s = ctF G i k s + (if X = s then 1 else 0) := by
  unfold ctF
  rw [List.take_succ_eq_append_getElem hk, ctN_snoc, ← Int.add_assoc]
  have e : (G.getD i [])[k] = (X : Int) := by rw [← hX, getD_at hk]
  rw [e]
  by_cases h : X = s
  · rw [if_pos h, if_pos (by rw [h])]
  · rw [if_neg h, if_neg (by omega)]
theorem gtL_next {n : Nat} {G : List (List Int)} {i k X : Nat} (hk : k < (G.getD i []).length) (hX : (G.getD i []).getD k 0 = (X : Int)) (hn : X < n) : (gtL n G i k).set X (ctF G i k X + 1) = gtL n G i (k + 1) := by
  refine gtL_ext (by rw [List.length_set, gtL_len]) fun s hs => ?_
  rw [List.getElem_set, ctF_next hk hX]
  split
  · rename_i e; subst e; rfl
  · rw [gtL_at]; simp
theorem gtL_row {n : Nat} {G : List (List Int)} {i : Nat} (hi : i < G.length) : gtL n G i (G.getD i []).length = gtL n G (i + 1) 0 := by
  refine gtL_ext (gtL_len _ _ _ _) fun s hs => ?_
  rw [gtL_at]
  unfold ctF
  rw [List.take_succ_eq_append_getElem hi, ctG_snoc, List.take_zero, List.take_length]
  have e : G.getD i [] = G[i] := by simp [List.getD, hi]
  rw [e]
  simp [ctN]
theorem gtL_start (n : Nat) (G : List (List Int)) : gtL n G 0 0 = List.replicate n 0 := by
  symm
  refine gtL_ext (by simp) fun s hs => ?_
  unfold ctF
  simp [ctG, ctN]
theorem gtL_end {n : Nat} {G : List (List Int)} {L : List Int} (hn : L.length = n) (h : ∀ k, k < n → ctG k G = L.getD k 0) : gtL n G G.length 0 = L := by
  symm
  refine gtL_ext hn fun s hs => ?_
  unfold ctF
  rw [List.take_length, List.take_zero, h s (by omega), getD_at hs]
  simp [ctN]
theorem ctN_bd (s : Nat) (l : List Int) : 0 ≤ ctN s l ∧ ctN s l ≤ l.length := by
  unfold ctN
  have := List.count_le_length (a := (s : Int)) (l := l)
  omega
theorem ctG_bd (s : Nat) : ∀ (g : List (List Int)), (∀ a ∈ g, a.length ≤ 20) → 0 ≤ ctG s g ∧ ctG s g ≤ 20 * g.length
  | [], _ => by simp [ctG]
  | a :: t, h => by
    have h1 := ctG_bd s t fun b hb => h b (List.mem_cons_of_mem _ hb)
    have h2 := ctN_bd s a
    have h3 := h a List.mem_cons_self
    rw [ctG, List.length_cons]
    omega
theorem ctF_bd {f n : Nat} {G : List (List Int)} (hw : rvWell f n G) (hf : f ≤ 20) (hl : G.length ≤ 300) {i k s : Nat} (hi : i < G.length) : 0 ≤ ctF G i k s ∧ ctF G i k s ≤ 7000 := by
  have hall : ∀ a ∈ G, a.length ≤ 20 := by
    intro a ha
    obtain ⟨j, hj, rfl⟩ := List.getElem_of_mem ha
    have := (rvWell_at hw j hj).2.1
    have e : G.getD j [] = G[j] := by simp [List.getD, hj]
    rw [e] at this
    omega
  have h1 := ctG_bd s (G.take i) fun a ha => hall a (List.mem_of_mem_take ha)
  have h2 := ctN_bd s ((G.getD i []).take k)
  have h3 := (rvWell_at hw i hi).2.1
  rw [List.length_take] at h1 h2
  unfold ctF
  omega
/-- All that the law asks of the needs. -/
structure TuA (L : List Int) (g hd : Int) (f : Nat) (G : List (List Int)) : Prop where
  len : 1 ≤ L.length ∧ L.length ≤ 6
  nn : ∀ k, k < L.length → 0 ≤ L.getD k 0 ∧ L.getD k 0 ≤ 7
  tm : ∀ k, k ≤ L.length → 0 ≤ tmA L g k ∧ tmA L g k ≤ 12000
  tms : tmA L g L.length = L.sum + g * L.length
  sums : ∀ k, k ≤ L.length → 0 ≤ (L.take k).sum ∧ (L.take k).sum ≤ 42
  dl : (tkV0 L hd g).length = L.length
  dn : ∀ k, k < L.length → L.getD k 0 ≤ (tkV0 L hd g).getD k 0 ∧ ((tkV0 L hd g).getD k 0 = 0 ↔ L.getD k 0 = 0)
  dm : L.sum ≤ mxL (tkV0 L hd g)
  well : rvWell f L.length G
  few : G.length ≤ 300
  cnt : ∀ k, k < L.length → ctG k G = L.getD k 0
theorem tu_all {L : List Int} {g hd : Int} {f : Nat} (h1 : 1 ≤ L.length) (h2 : L.length ≤ 6) (h3 : ∀ x ∈ L, 0 ≤ x ∧ x ≤ 7) (hg : 0 ≤ g ∧ g ≤ 3) (hh : 1 ≤ hd ∧ hd ≤ 4) (hf : 1 ≤ f ∧ f ≤ 5) :
    ∃ G, rvG f 300 L [] = some G ∧ TuA L g hd f G := by
  have h3' : ∀ x ∈ L, 0 ≤ x ∧ x ≤ 1000 := fun x hx => by have := h3 x hx; omega
  have hsum : ∀ k, k ≤ L.length → 0 ≤ (L.take k).sum ∧ (L.take k).sum ≤ 42 := by
    intro k hk
    have a1 := sum_nn (l := L.take k) fun x hx => (h3 x (List.mem_of_mem_take hx)).1
    have a2 := sum_bd (l := L.take k) (c := 7) (by decide) fun x hx => (h3 x (List.mem_of_mem_take hx)).2
    rw [List.length_take] at a2
    omega
  have hs := hsum L.length (Nat.le_refl _)
  rw [List.take_length] at hs
  have hok : rvOk L f := ⟨h1, by omega, h3', by omega, by omega⟩
  have htk : tkOkS L hd g := ⟨h1, by omega, h3', by omega, by omega, by omega, by omega⟩
  obtain ⟨G, e1, e2, e3, e4⟩ := rvG_well (n := L.length) 300 L [] hok rfl trivial (fun _ b hb => by simp at hb) (by omega)
  obtain ⟨t1, t2⟩ := tk_turns htk
  refine ⟨G, e1, ⟨⟨h1, h2⟩, fun k hk => ?_, fun k hk => ?_, ?_, hsum, (tkV0_nn htk).1, fun k hk => ?_, t2, e2, by simpa using e3, fun k hk => ?_⟩⟩
  · rw [getD_at hk]; exact h3 _ (List.getElem_mem _)
  · have := tmA_bd (l := L) (g := g) h3' (by omega) k hk
    omega
  · rw [tmA_sum L g _ (Nat.le_refl _), List.take_length]
  · have := t1 k hk
    rw [getD_at hk]
    exact ⟨this.1, this.2⟩
  · rw [e4 k hk]; simp [ctG]
theorem mx_step (l : List Int) {k : Nat} (h : k < l.length) : (l.take (k + 1)).foldl max 0 = max ((l.take k).foldl max 0) (l.getD k 0) := by
  rw [List.take_succ_eq_append_getElem h, List.foldl_append, getD_at h]; rfl
end Go.Proofs.Ytjhgkkecconcaab
