/- Plain: the states that are reached, by rounds and by a list that grows. -/
import Derived.Test.YtllkojakeoennabGb
import Derived.Test.YtllkojakeoennabR8p
namespace Go.Proofs.Ytllkojakeoennab
open Go Go.RowKit
set_option linter.unusedVariables false

/-- The two edges of a state, as numbers. -/
def eG (g : List (List Int)) (x : Int) (b : Nat) : Int := (g.getD x.toNat []).getD b 0
def inS (n : Nat) (x : Int) : Prop := 0 ≤ x ∧ x < n
/-- A set that the edges do not leave. -/
def Clo (g : List (List Int)) (l : List Int) : Prop := ∀ x ∈ l, ∀ b, b < 2 → 0 ≤ eG g x b → eG g x b ∈ l
theorem eG_bd {g : List (List Int)} (h : isG g = true) {x : Int} (hx : inS g.length x) {b : Nat} (hb : b < 2) : -1 ≤ eG g x b ∧ eG g x b < g.length := by
  have hk : x.toNat < g.length := by have := hx.2; have := hx.1; omega
  obtain ⟨h1, h2, h3, -⟩ := okRow_parts (isG_row h _ hk)
  unfold eG
  rw [show g.getD x.toNat [] = g[x.toNat] from by simp [List.getD, hk]]
  rcases (show b = 0 ∨ b = 1 by omega) with rfl | rfl <;> omega

/-- One state's edges put into a set. -/
def putB (g : List (List Int)) (x : Int) (b : Nat) (acc : List Int) : List Int := if 0 ≤ eG g x b then putF (eG g x b) acc else acc
def putE (g : List (List Int)) (acc : List Int) (x : Int) : List Int := putB g x 1 (putB g x 0 acc)
def roundM (g : List (List Int)) (l : List Int) : List Int := l.foldl (putE g) l
def reachM (g : List (List Int)) (x : Int) : Nat → List Int
  | 0 => [x]
  | k + 1 => roundM g (reachM g x k)
theorem putB_mem {g : List (List Int)} {x : Int} {b : Nat} {acc : List Int} {z : Int} : z ∈ putB g x b acc ↔ z ∈ acc ∨ (0 ≤ eG g x b ∧ z = eG g x b) := by
  unfold putB
  split
  · rename_i h; rw [putF_mem]; constructor
    · rintro (h' | h')
      · exact .inr ⟨h, h'⟩
      · exact .inl h'
    · rintro (h' | ⟨-, h'⟩)
      · exact .inr h'
      · exact .inl h'
  · rename_i h; constructor
    · exact .inl
    · rintro (h' | ⟨h1, -⟩)
      · exact h'
      · exact absurd h1 h
theorem putE_mem {g : List (List Int)} {x : Int} {acc : List Int} {z : Int} : z ∈ putE g acc x ↔ z ∈ acc ∨ ∃ b, b < 2 ∧ 0 ≤ eG g x b ∧ z = eG g x b := by
  unfold putE
  rw [putB_mem, putB_mem]
  constructor
  · rintro ((h | h) | h)
    · exact .inl h
    · exact .inr ⟨0, by decide, h⟩
    · exact .inr ⟨1, by decide, h⟩
  · rintro (h | ⟨b, hb, h⟩)
    · exact .inl (.inl h)
    · rcases (show b = 0 ∨ b = 1 by omega) with rfl | rfl
      · exact .inl (.inr h)
      · exact .inr h
theorem fold_mem {g : List (List Int)} {z : Int} : ∀ (xs acc : List Int), z ∈ xs.foldl (putE g) acc ↔ z ∈ acc ∨ ∃ x ∈ xs, ∃ b, b < 2 ∧ 0 ≤ eG g x b ∧ z = eG g x b
  | [], acc => by simp
  | x :: xs, acc => by
    rw [List.foldl_cons, fold_mem xs, putE_mem]
    constructor
    · rintro ((h | h) | ⟨y, hy, h⟩)
      · exact .inl h
      · exact .inr ⟨x, List.mem_cons_self, h⟩
      · exact .inr ⟨y, List.mem_cons_of_mem _ hy, h⟩
    · rintro (h | ⟨y, hy, h⟩)
      · exact .inl (.inl h)
      · rcases List.mem_cons.1 hy with rfl | hy
        · exact .inl (.inr h)
        · exact .inr ⟨y, hy, h⟩
theorem putE_rise {g : List (List Int)} {x : Int} {acc : List Int} (h : acc.Pairwise (· < ·)) : (putE g acc x).Pairwise (· < ·) := by
  have h1 : ∀ b (acc : List Int), acc.Pairwise (· < ·) → (putB g x b acc).Pairwise (· < ·) := by
    intro b acc h
    unfold putB
    split
    · exact putF_rise _ _ h
    · exact h
  exact h1 1 _ (h1 0 _ h)
theorem fold_rise {g : List (List Int)} : ∀ (xs acc : List Int), acc.Pairwise (· < ·) → (xs.foldl (putE g) acc).Pairwise (· < ·)
  | [], acc, h => h
  | x :: xs, acc, h => fold_rise xs _ (putE_rise h)
theorem reachM_rise (g : List (List Int)) (x : Int) : ∀ k, (reachM g x k).Pairwise (· < ·)
  | 0 => by simp [reachM]
  | k + 1 => fold_rise _ _ (reachM_rise g x k)
theorem reachM_in {g : List (List Int)} (hg : isG g = true) {x : Int} (hx : inS g.length x) : ∀ k, ∀ z ∈ reachM g x k, inS g.length z
  | 0, z, hz => by simp [reachM] at hz; subst hz; exact hx
  | k + 1, z, hz => by
    rcases (fold_mem _ _).1 hz with h | ⟨y, hy, b, hb, h0, rfl⟩
    · exact reachM_in hg hx k z h
    · exact ⟨h0, (eG_bd hg (reachM_in hg hx k y hy) hb).2⟩
theorem reachM_sub {g : List (List Int)} {x : Int} {S : List Int} (hS : Clo g S) (hx : x ∈ S) : ∀ k, ∀ z ∈ reachM g x k, z ∈ S
  | 0, z, hz => by simp [reachM] at hz; subst hz; exact hx
  | k + 1, z, hz => by
    rcases (fold_mem _ _).1 hz with h | ⟨y, hy, b, hb, h0, rfl⟩
    · exact reachM_sub hS hx k z h
    · exact hS y (reachM_sub hS hx k y hy) b hb h0
theorem reachM_from (g : List (List Int)) (x : Int) : ∀ k, x ∈ reachM g x k
  | 0 => by simp [reachM]
  | k + 1 => (fold_mem _ _).2 (.inl (reachM_from g x k))
theorem rise_len : ∀ (n : Nat) (l : List Int), l.Pairwise (· < ·) → (∀ z ∈ l, 0 ≤ z ∧ z < n) → l.length ≤ n := by
  have aux : ∀ (l : List Int) (a : Int) (n : Nat), l.Pairwise (· < ·) → (∀ z ∈ l, a ≤ z ∧ z < n) → a + l.length ≤ n ∨ l = [] := by
    intro l
    induction l with
    | nil => intro a n _ _; exact .inr rfl
    | cons y l ih =>
      intro a n h hz
      obtain ⟨h1, h2⟩ := List.pairwise_cons.1 h
      have hy := hz y List.mem_cons_self
      rcases ih (y + 1) n h2 (fun z hz' => ⟨by have := h1 z hz'; omega, (hz z (List.mem_cons_of_mem _ hz')).2⟩) with h3 | h3
      · exact .inl (by simp; omega)
      · subst h3; exact .inl (by simp; omega)
  intro n l h hz
  rcases aux l 0 n h hz with h1 | h1
  · omega
  · subst h1; simp
/-- Two rising lists with the same numbers are one. -/
theorem rise_ext : ∀ (l m : List Int), l.Pairwise (· < ·) → m.Pairwise (· < ·) → (∀ z, z ∈ l ↔ z ∈ m) → l = m
  | [], [], _, _, _ => rfl
  | [], y :: m, _, _, h => by have := (h y).2 List.mem_cons_self; cases this
  | x :: l, [], _, _, h => by have := (h x).1 List.mem_cons_self; cases this
  | x :: l, y :: m, h1, h2, h => by
    obtain ⟨a1, a2⟩ := List.pairwise_cons.1 h1
    obtain ⟨b1, b2⟩ := List.pairwise_cons.1 h2
    have hxy : x = y := by
      rcases List.mem_cons.1 ((h x).1 List.mem_cons_self) with e | e
      · exact e
      · rcases List.mem_cons.1 ((h y).2 List.mem_cons_self) with e' | e'
        · exact e'.symm
        · have := b1 x e; have := a1 y e'; omega
    subst hxy
    rw [rise_ext l m a2 b2 fun z => ?_]
    constructor
    · intro hz
      rcases List.mem_cons.1 ((h z).1 (List.mem_cons_of_mem _ hz)) with e | e
      · have := a1 z hz; omega
      · exact e
    · intro hz
      rcases List.mem_cons.1 ((h z).2 (List.mem_cons_of_mem _ hz)) with e | e
      · have := b1 z hz; omega
      · exact e
/-- A rising list grows where a number is new. -/
theorem rise_grow {l m : List Int} (h1 : l.Pairwise (· < ·)) (h2 : m.Pairwise (· < ·)) (hs : ∀ z ∈ l, z ∈ m) {e : Int} (he : e ∈ m) (hn : e ∉ l) : l.length + 1 ≤ m.length := by
  induction l generalizing m with
  | nil => cases m with
    | nil => cases he
    | cons y m => simp
  | cons x l ih =>
    obtain ⟨a1, a2⟩ := List.pairwise_cons.1 h1
    -- x stands in m: strike it
    have hx := hs x List.mem_cons_self
    have key : ∃ m' : List Int, m'.Pairwise (· < ·) ∧ m'.length + 1 = m.length ∧ ∀ z, z ∈ m' ↔ z ∈ m ∧ z ≠ x := by
      clear ih he hn hs h1 a1 a2
      induction m with
      | nil => cases hx
      | cons y m ihm =>
        obtain ⟨b1, b2⟩ := List.pairwise_cons.1 h2
        by_cases e : x = y
        · subst e
          refine ⟨m, b2, by simp, fun z => ⟨fun hz => ⟨List.mem_cons_of_mem _ hz, fun e => by have := b1 z hz; omega⟩, fun ⟨hz, hne⟩ => ?_⟩⟩
          rcases List.mem_cons.1 hz with e | e
          · exact absurd e hne
          · exact e
        · have hxm : x ∈ m := by
            rcases List.mem_cons.1 hx with e' | e'
            · exact absurd e' e
            · exact e'
          obtain ⟨m', c1, c2, c3⟩ := ihm b2 hxm
          refine ⟨y :: m', List.pairwise_cons.2 ⟨fun z hz => b1 z ((c3 z).1 hz).1, c1⟩, by simp; omega, fun z => ?_⟩
          rw [List.mem_cons, List.mem_cons, c3]
          constructor
          · rintro (rfl | ⟨h1, h2⟩)
            · exact ⟨.inl rfl, fun h => e h.symm⟩
            · exact ⟨.inr h1, h2⟩
          · rintro ⟨rfl | h1, h2⟩
            · exact .inl rfl
            · exact .inr ⟨h1, h2⟩
    obtain ⟨m', c1, c2, c3⟩ := key
    have := ih a2 c1 (fun z hz => (c3 z).2 ⟨hs z (List.mem_cons_of_mem _ hz), fun e => by have := a1 z hz; omega⟩) ((c3 e).2 ⟨he, fun h => hn (by rw [h]; exact List.mem_cons_self)⟩) (fun h => hn (List.mem_cons_of_mem _ h))
    simp; omega
theorem roundM_same {g : List (List Int)} {l : List Int} (hl : l.Pairwise (· < ·)) (h : Clo g l) : roundM g l = l :=
  rise_ext _ _ (fold_rise _ _ hl) hl fun z => by
    unfold roundM
    rw [fold_mem]
    exact ⟨fun h' => by rcases h' with h' | ⟨y, hy, b, hb, h0, rfl⟩; exact h'; exact h y hy b hb h0, .inl⟩
/-- As many rounds as states are enough. -/
theorem reachM_clo {g : List (List Int)} (hg : isG g = true) {x : Int} (hx : inS g.length x) : Clo g (reachM g x g.length) := by
  have step : ∀ k, Clo g (reachM g x k) ∨ k + 1 ≤ (reachM g x k).length := by
    intro k
    induction k with
    | zero => exact .inr (by simp [reachM])
    | succ k ih =>
      rcases ih with h | h
      · left
        show Clo g (roundM g (reachM g x k))
        rw [roundM_same (reachM_rise g x k) h]; exact h
      · by_cases hc : Clo g (reachM g x k)
        · left
          show Clo g (roundM g (reachM g x k))
          rw [roundM_same (reachM_rise g x k) hc]; exact hc
        · right
          unfold Clo at hc
          have : ∃ y ∈ reachM g x k, ∃ b, b < 2 ∧ 0 ≤ eG g y b ∧ eG g y b ∉ reachM g x k := by
            apply Classical.byContradiction
            intro hn
            apply hc
            intro y hy b hb h0
            apply Classical.byContradiction
            intro hm
            exact hn ⟨y, hy, b, hb, h0, hm⟩
          obtain ⟨y, hy, b, hb, h0, hm⟩ := this
          have := rise_grow (reachM_rise g x k) (reachM_rise g x (k + 1)) (fun z hz => (fold_mem _ _).2 (.inl hz)) (e := eG g y b) ((fold_mem _ _).2 (.inr ⟨y, hy, b, hb, h0, rfl⟩)) hm
          omega
  rcases step g.length with h | h
  · exact h
  · have := rise_len g.length _ (reachM_rise g x g.length) (reachM_in hg hx g.length)
    omega

/-- The list that grows: the edges of what stands ahead of i are in it, and those below b of what stands at i. -/
structure Wk (g : List (List Int)) (x : Int) (L : List Int) (i b : Nat) : Prop where
  nd : L.Nodup
  ins : ∀ z ∈ L, inS g.length z
  frm : x ∈ L
  don : ∀ j (hj : j < L.length) b', b' < 2 → (j < i ∨ (j = i ∧ b' < b)) → 0 ≤ eG g L[j] b' → eG g L[j] b' ∈ L
  min : ∀ S, Clo g S → x ∈ S → ∀ z ∈ L, z ∈ S
theorem Wk.start {g : List (List Int)} {x : Int} (h : inS g.length x) : Wk g x [x] 0 0 :=
  ⟨by simp, by simpa using h, by simp, fun j _ b' _ h => by omega, fun S _ hx z hz => by simp at hz; subst hz; exact hx⟩
theorem Wk.len {g : List (List Int)} {x : Int} {L : List Int} {i b : Nat} (h : Wk g x L i b) : L.length ≤ g.length := by
  have h1 : L ⊆ (List.range g.length).map (fun k : Nat => (k : Int)) := by
    intro z hz
    obtain ⟨a, b⟩ := h.ins z hz
    exact List.mem_map.2 ⟨z.toNat, List.mem_range.2 (by omega), by omega⟩
  have := h.nd.length_le_of_subset h1
  simpa using this
theorem Wk.skip {g : List (List Int)} {x : Int} {L : List Int} {i b : Nat} (h : Wk g x L i b) (hi : i < L.length) (hy : 0 ≤ eG g L[i] b → eG g L[i] b ∈ L) : Wk g x L i (b + 1) :=
  ⟨h.nd, h.ins, h.frm, fun j hj b' hb hd h0 => by
    by_cases e : j = i ∧ b' = b
    · obtain ⟨rfl, rfl⟩ := e; exact hy h0
    · exact h.don j hj b' hb (by omega) h0, h.min⟩
theorem Wk.add {g : List (List Int)} (hg : isG g = true) {x : Int} {L : List Int} {i b : Nat} (h : Wk g x L i b) (hi : i < L.length) (hb : b < 2) (h0 : 0 ≤ eG g L[i] b) (hn : eG g L[i] b ∉ L) : Wk g x (L ++ [eG g L[i] b]) i (b + 1) := by
  have hin : inS g.length (eG g L[i] b) := ⟨h0, (eG_bd hg (h.ins _ (List.getElem_mem hi)) hb).2⟩
  refine ⟨?_, fun z hz => ?_, List.mem_append_left _ h.frm, fun j hj b' hb' hd h1 => ?_, fun S hS hx z hz => ?_⟩
  · rw [List.nodup_append]
    exact ⟨h.nd, by simp, fun a ha b hb => by simp at hb; subst hb; intro e; exact hn (e ▸ ha)⟩
  · rcases List.mem_append.1 hz with hz | hz
    · exact h.ins z hz
    · simp at hz; subst hz; exact hin
  · have hjL : j < L.length := by omega
    rw [List.getElem_append_left hjL] at h1 ⊢
    by_cases e : j = i ∧ b' = b
    · obtain ⟨rfl, rfl⟩ := e; simp
    · exact List.mem_append_left _ (h.don j hjL b' hb' (by omega) h1)
  · rcases List.mem_append.1 hz with hz | hz
    · exact h.min S hS hx z hz
    · simp at hz; subst hz
      exact hS _ (h.min S hS hx _ (List.getElem_mem hi)) b hb h0
theorem Wk.next {g : List (List Int)} {x : Int} {L : List Int} {i : Nat} (h : Wk g x L i 2) : Wk g x L (i + 1) 0 :=
  ⟨h.nd, h.ins, h.frm, fun j hj b' hb hd h0 => h.don j hj b' hb (by omega) h0, h.min⟩
/-- Sorted, it is what the rounds give. -/
theorem Wk.fin {g : List (List Int)} (hg : isG g = true) {x : Int} (hx : inS g.length x) {L R : List Int} {i : Nat} (h : Wk g x L i 0) (hi : L.length ≤ i) (hp : R.Perm L) (hs : R.Pairwise (· ≤ ·)) : R = reachM g x g.length := by
  have hclo : Clo g L := by
    intro y hy b hb h0
    obtain ⟨j, hj, rfl⟩ := List.getElem_of_mem hy
    exact h.don j hj b hb (by omega) h0
  have hnd : R.Nodup := hp.symm.nodup h.nd
  have hr : R.Pairwise (· < ·) := by
    have := hs.and hnd
    exact this.imp fun h => by have := h.1; have := h.2; omega
  refine rise_ext _ _ hr (reachM_rise g x _) fun z => ?_
  rw [hp.mem_iff]
  exact ⟨h.min _ (reachM_clo hg hx) (reachM_from g x _) z, reachM_sub hclo h.frm _ z⟩
theorem Wk.skip2 {g : List (List Int)} {x z : Int} {L : List Int} {i b : Nat} (h : Wk g x L i b) (hz : L[i]? = some z) (hy : 0 ≤ eG g z b → eG g z b ∈ L) : Wk g x L i (b + 1) := by
  obtain ⟨hi, e⟩ := List.getElem?_eq_some_iff.1 hz
  subst e
  exact h.skip hi hy
theorem Wk.add2 {g : List (List Int)} (hg : isG g = true) {x z : Int} {L : List Int} {i b : Nat} (h : Wk g x L i b) (hz : L[i]? = some z) (hb : b < 2) (h0 : 0 ≤ eG g z b) (hn : eG g z b ∉ L) : Wk g x (L ++ [eG g z b]) i (b + 1) ∧ (L ++ [eG g z b])[i]? = some z := by
  obtain ⟨hi, e⟩ := List.getElem?_eq_some_iff.1 hz
  subst e
  exact ⟨h.add hg hi hb h0 hn, by rw [List.getElem?_append_left hi]; exact hz⟩
end Go.Proofs.Ytllkojakeoennab
