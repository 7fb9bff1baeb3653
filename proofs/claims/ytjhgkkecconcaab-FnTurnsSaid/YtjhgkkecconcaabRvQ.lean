/- Rows of rows of a call's own that grow by whole rows, beside a row that is stored into. -/
import Derived.Test.YtjhgkkecconcaabGm
import Derived.Test.YtjhgkkecconcaabRoI
import Derived.Maps.Range
namespace Go.Proofs.Ytjhgkkecconcaab
open Go Go.RowKit
set_option linter.unusedVariables false

theorem RowI.grown {w w' : World} {base g n c : Nat} {L : List Int} {row : Option Nat} (h : RowI w base g n c L) (hg : w.grownBy w' row) (hne : some g ≠ row) : RowI w' base g n c L :=
  ⟨h.1, World.ownsRow.kept h.2.1 hg (.inr (by simpa [Value.ownBlock] using hne)), h.2.2.1, Nat.lt_of_lt_of_le h.2.2.2 hg.size⟩
theorem RowI.stored {w : World} {base g n c : Nat} {L : List Int} (h : RowI w base g n c L) (k : Nat) (x : Int) : w.grownBy (w.setCell ⟨g, k, none⟩ (.int .i64 x)) (some g) := by
  obtain ⟨rfl, ho, -, -⟩ := h
  exact (World.ownsRow.stored ho k (.int .i64 x)).2
theorem own_far {w w' : World} {base size n : Nat} {e : TypeId} {v : Value} {xs : List Value} {row : Option Nat} (h : w.ownsRow base e size v n xs) (hg : w.grownBy w' row) (hr : ∀ k, row = some k → k < base ∨ w.heap.size ≤ k) : w'.ownsRow base e size v n xs := by
  refine World.ownsRow.kept h hg ?_
  cases hv : v.ownBlock with
  | none => exact .inl rfl
  | some k =>
    refine .inr fun e' => ?_
    have h1 := World.ownsRow.lt h k hv
    have := hr k e'.symm
    omega
theorem OwnG.grown {w w' : World} {lo hi : Nat} {v : Value} {us : List Value} {g : List (List Int)} {row : Option Nat} (h : OwnG w lo hi v us g) (hg : w.grownBy w' row) (hr : ∀ k, row = some k → k < lo ∨ w.heap.size ≤ k) : OwnG w' lo hi v us g :=
  ⟨own_far h.row hg hr, h.len, fun i h1 h2 => own_far (h.each i h1 h2) hg hr, h.apart, h.top, h.tops, Nat.le_trans h.size hg.size⟩
theorem OwnG.up {w : World} {lo hi hi2 : Nat} {v : Value} {us : List Value} {g : List (List Int)} (h : OwnG w lo hi v us g) (h1 : hi ≤ hi2) (h2 : hi2 ≤ w.heap.size) : OwnG w lo hi2 v us g :=
  ⟨h.row, h.len, h.each, h.apart, fun k hk => Nat.lt_of_lt_of_le (h.top k hk) h1, fun u hu k hk => Nat.lt_of_lt_of_le (h.tops u hu k hk) h1, h2⟩
theorem own_lower {w : World} {base base' size n : Nat} {e : TypeId} {v : Value} {xs : List Value} (h : w.ownsRow base e size v n xs) (hle : base' ≤ base) : w.ownsRow base' e size v n xs := by
  refine ⟨h.1, ?_⟩
  rcases h.2 with h' | ⟨g, cap, cur, h1, h2, h3⟩
  · exact .inl h'
  · exact .inr ⟨g, cap, cur, h1, by omega, h3⟩
theorem OwnG.base {w : World} {lo lo2 hi : Nat} {v : Value} {us : List Value} {g : List (List Int)} (h : OwnG w lo hi v us g) (h1 : lo2 ≤ lo) : OwnG w lo2 hi v us g :=
  ⟨own_lower h.row h1, h.len, fun i a b => own_lower (h.each i a b) h1, h.apart, h.top, h.tops, h.size⟩
theorem ownG_nil (w : World) (lo : Nat) : OwnG w lo w.heap.size (.slice none 0 0) [] [] :=
  ⟨World.ownsRow_nil _ _ _ _, rfl, fun i h => by simp at h, List.Pairwise.nil, fun k hk => by simp [Value.ownBlock] at hk, fun u hu => by simp at hu, Nat.le_refl _⟩
theorem ownG_made (w : World) (lo : Nat) (h : lo ≤ w.heap.size) : OwnG (w.alloc (.cells #[] 22)) lo (w.alloc (.cells #[] 22)).heap.size (.slice (some ⟨w.heap.size, 0, none⟩) 0 0) [] [] :=
  ⟨World.ownsRow_made w #[] 0 h (by decide) rfl, rfl, fun i h => by simp at h, List.Pairwise.nil, fun k hk => by simp [Value.ownBlock] at hk; simp; omega, fun u hu => by simp at hu, Nat.le_refl _⟩
theorem OwnG.snoc {w w' : World} {lo hi : Nat} {v v' u : Value} {us : List Value} {g : List (List Int)} {a : List Int} {o : Obj} (h : OwnG w lo hi v us g) (hlo : lo ≤ hi) (hu : Own w hi u a)
    (ho : w'.ownsRow lo 22 1 v' (us.length + 1) (us ++ [u])) (hg : (w.alloc o).grownBy w' v.ownBlock) : OwnG w' lo w'.heap.size v' (us ++ [u]) (g ++ [a]) := by
  have hz := hg.size
  simp at hz
  have hkeep : ∀ {x : Value} {l : List Int}, Own w lo x l → Own w' lo x l := by
    intro x l hx
    have hx1 : Own (w.alloc o) lo x l := hx.keep ((Below.refl _ _).alloc (Nat.le_refl _) _)
    refine World.ownsRow.kept hx1 hg ?_
    cases hv : x.ownBlock with
    | none => exact .inl rfl
    | some k =>
      refine .inr fun e => ?_
      rcases own_ne h.row hx with h' | h'
      · rw [h'] at e; cases e
      · rw [hv] at h'; exact h' e.symm
  refine ⟨by rw [List.length_append, List.length_singleton]; exact ho, by simp [h.len], fun i h1 h2 => ?_, ?_, fun k hk => (World.ownsRow.lt ho k hk).2, fun x hx k hk => ?_, Nat.le_refl _⟩
  · rcases Nat.lt_or_ge i us.length with h3 | h3
    · have hi' : i < g.length := by rw [← h.len]; exact h3
      rw [List.getElem_append_left h3, List.getElem_append_left hi']
      exact hkeep (h.each i hi' h3)
    · have e1 : i = us.length := by simp at h2; omega
      have e2 : i = g.length := by rw [← h.len]; exact e1
      rw [List.getElem_append_right h3, List.getElem_append_right (by omega)]
      simp [e1, ← h.len]
      exact hkeep (Own.base hu hlo)
  · rw [List.pairwise_append]
    refine ⟨h.apart, by simp, fun x hx y hy => ?_⟩
    simp at hy
    subst hy
    intro k hk e
    have h1 := h.tops x hx k hk
    have h2 := (World.ownsRow.lt hu k e).1
    omega
  · rcases List.mem_append.1 hx with hx | hx
    · have := h.tops x hx k hk; have := h.size; omega
    · simp at hx
      subst hx
      have := (World.ownsRow.lt hu k hk).2; omega
theorem src_one (wr : World) (x : Value) (t : TypeId) : ∀ (j : Nat) (u : Value), [x][j]? = some u → (wr.alloc (.cells #[x] t)).cell? ((⟨wr.heap.size, 0, none⟩ : Addr).add j) = some u := by
  intro j u hj
  have hadd : ∀ i, (⟨wr.heap.size, 0, none⟩ : Addr).add i = ⟨wr.heap.size, 0 + i, none⟩ := fun i => by unfold Addr.add; split <;> simp_all
  rw [hadd]
  match j, hj with
  | 0, hj =>
    simp at hj; subst hj
    rw [World.cell?_alloc_at _ _ _ _ rfl]
    rfl
end Go.Proofs.Ytjhgkkecconcaab
