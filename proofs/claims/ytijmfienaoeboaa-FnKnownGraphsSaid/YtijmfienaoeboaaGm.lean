/- Rows of rows that a call itself has made: they can be marked and held. -/
import Derived.Test.YtijmfienaoeboaaGr
namespace Go.Proofs.Ytijmfienaoeboaa
open Go Go.RowKit
set_option linter.unusedVariables false

/-- Nothing but blocks from lo on and below hi has turned. -/
structure ChgG (lo hi : Nat) (w w' : World) : Prop where
  os : w'.os = w.os
  tape : w'.tape = w.tape
  output : w'.output = w.output
  size : w'.heap.size = w.heap.size
  block : ∀ k, (k < lo ∨ hi ≤ k) → w'.heap[k]? = w.heap[k]?
theorem ChgG.refl (lo hi : Nat) (w : World) : ChgG lo hi w w := ⟨rfl, rfl, rfl, rfl, fun _ _ => rfl⟩
theorem ChgG.trans {lo hi : Nat} {a b c : World} (h : ChgG lo hi a b) (k : ChgG lo hi b c) : ChgG lo hi a c :=
  ⟨k.os.trans h.os, k.tape.trans h.tape, k.output.trans h.output, k.size.trans h.size, fun x hx => (k.block x hx).trans (h.block x hx)⟩
theorem ChgG.of {lo hi : Nat} {w w' : World} {row : Option Nat} (hg : w.grownBy w' row) (hz : w'.heap.size = w.heap.size) (hr : ∀ k, row = some k → lo ≤ k ∧ k < hi) : ChgG lo hi w w' := by
  refine ⟨hg.os, hg.tape, hg.output, hz, fun k hk => ?_⟩
  rcases Nat.lt_or_ge k w.heap.size with h' | h'
  · refine hg.block k h' fun e => ?_
    have := hr k e.symm
    omega
  · rw [Array.getElem?_eq_none h', Array.getElem?_eq_none (by omega)]
theorem ChgG.below {lo hi B : Nat} {a w w' : World} (hb : Below B a w) (h : ChgG lo hi w w') (hB : B ≤ lo) : Below B a w' :=
  hb.trans ⟨h.os, h.tape, h.output, by rw [h.size]; exact Nat.le_refl _, fun k hk => h.block k (Or.inl (by omega))⟩

def apart2 (a b : Value) : Prop := ∀ k, a.ownBlock = some k → b.ownBlock ≠ some k
/-- A row of rows of the call's own, in a range of blocks. -/
structure OwnG (w : World) (lo hi : Nat) (v : Value) (us : List Value) (g : List (List Int)) : Prop where
  row : w.ownsRow lo 32 1 v us.length us
  len : us.length = g.length
  each : ∀ i (h : i < g.length) (h' : i < us.length), Own w lo us[i] g[i]
  apart : us.Pairwise apart2
  top : ∀ k, v.ownBlock = some k → k < hi
  tops : ∀ u ∈ us, ∀ k, u.ownBlock = some k → k < hi
  size : hi ≤ w.heap.size

theorem own_ne {w : World} {B : Nat} {v u : Value} {n m : Nat} {xs : List Value} {l : List Int} (h : w.ownsRow B 32 1 v n xs) (h2 : w.ownsRow B 2 1 u m (intVals l)) : v.ownBlock = none ∨ v.ownBlock ≠ u.ownBlock := by
  rcases h.2 with ⟨rfl, _⟩ | ⟨g, cap, cur, rfl, _, hg, _⟩
  · exact .inl rfl
  · rcases h2.2 with ⟨rfl, _⟩ | ⟨g2, cap2, cur2, rfl, _, hg2, _⟩
    · exact .inr (by simp [Value.ownBlock])
    · refine .inr fun e => ?_
      simp only [Value.ownBlock, Option.some.injEq] at e
      subst e
      rw [hg] at hg2
      simp only [Option.some.injEq, Obj.cells.injEq] at hg2
      exact absurd hg2.2.1 (by decide)

theorem OwnG.rdg {w : World} {lo hi : Nat} {v : Value} {us : List Value} {g : List (List Int)} (h : OwnG w lo hi v us g) : RdG w v g := by
  obtain ⟨hown, hl, hin, -, -, -, -⟩ := h
  have hlen := own_len hown
  rcases hown.2 with ⟨rfl, h0⟩ | ⟨b, cap, cur, rfl, h1, hg, h2, h3, h4, h5⟩
  · exact ⟨none, 0, 0, rfl, by omega, Nat.le_refl _, Nat.zero_le _, fun h => by omega⟩
  · refine ⟨_, _, _, rfl, by omega, h2, h3, fun h0 => ⟨b, 0, rfl, ?_, fun i hi => ⟨us[i]'(by omega), ?_, (hin i hi (by omega)).rd⟩⟩⟩
    · rcases Nat.lt_or_ge b w.heap.size with h' | h'
      · exact h'
      · rw [Array.getElem?_eq_none h'] at hg; cases hg
    · have := (World.ownsRow.cellAt (w := w) (base := lo) hown i (by omega))
      rw [List.getElem?_eq_getElem (by omega)] at this
      rw [Nat.zero_add]; exact this
theorem OwnG.keep {w w' : World} {lo hi : Nat} {v : Value} {us : List Value} {g : List (List Int)} (h : OwnG w lo hi v us g) (hb : Below w.heap.size w w') : OwnG w' lo hi v us g :=
  ⟨own_below h.row hb, h.len, fun i h1 h2 => own_below (h.each i h1 h2) hb, h.apart, h.top, h.tops, Nat.le_trans h.size hb.size⟩
theorem OwnG.drewN {w : World} {lo hi : Nat} {v : Value} {us : List Value} {g : List (List Int)} (h : OwnG w lo hi v us g) (q : Nat) : OwnG (w.drewN q) lo hi v us g :=
  ⟨h.row, h.len, h.each, h.apart, h.top, h.tops, by simpa using h.size⟩
theorem own_chg {w w' : World} {lo hi base : Nat} {e : TypeId} {size n : Nat} {v : Value} {xs : List Value} (h : w.ownsRow base e size v n xs) (hc : ChgG lo hi w w') (hk : ∀ k, v.ownBlock = some k → k < lo ∨ hi ≤ k) : w'.ownsRow base e size v n xs := by
  refine ⟨h.1, ?_⟩
  rcases h.2 with h' | ⟨g, cap, cur, rfl, h1, hg, h2⟩
  · exact .inl h'
  · exact .inr ⟨g, cap, cur, rfl, h1, by rw [hc.block g (hk g rfl)]; exact hg, h2⟩
theorem OwnG.other {w w' : World} {lo hi lo2 hi2 : Nat} {v : Value} {us : List Value} {g : List (List Int)} (h : OwnG w lo hi v us g) (hc : ChgG lo2 hi2 w w') (hd : hi ≤ lo2) : OwnG w' lo hi v us g :=
  ⟨own_chg h.row hc (fun k hk => Or.inl (by have := h.top k hk; omega)), h.len, fun i h1 h2 => own_chg (h.each i h1 h2) hc (fun k hk => Or.inl (by have := h.tops _ (List.getElem_mem h2) k hk; omega)), h.apart, h.top, h.tops, by rw [hc.size]; exact h.size⟩

def tot (g : List (List Int)) : Nat := (g.map List.length).sum
theorem tot_snoc (g : List (List Int)) (k : Nat) (h : k < g.length) : tot (g.take (k + 1)) = tot (g.take k) + g[k].length := by
  rw [List.take_succ_eq_append_getElem h]
  unfold tot
  rw [List.map_append, List.sum_append_nat]
  simp
theorem tot_le (g : List (List Int)) (k : Nat) : tot (g.take k) ≤ tot g := by
  have e : tot g = tot (g.take k) + tot (g.drop k) := by
    have : g = g.take k ++ g.drop k := (List.take_append_drop k g).symm
    unfold tot
    rw [← List.sum_append_nat, ← List.map_append, ← this]
  omega
def marksSS (m : Int) (g : List (List Int)) : List (List Int) := (List.range g.length).map fun i => marks (m + (tot (g.take i) : Nat)) (g.getD i []).length
theorem marksSS_len (m : Int) (g : List (List Int)) : (marksSS m g).length = g.length := by simp [marksSS]
theorem marksSS_at (m : Int) (g : List (List Int)) (i : Nat) (h : i < g.length) : (marksSS m g)[i]'(by rw [marksSS_len]; exact h) = marks (m + (tot (g.take i) : Nat)) g[i].length := by
  simp [marksSS, List.getD, List.getElem?_eq_getElem h]
theorem marksSS_row (m : Int) (g : List (List Int)) (i : Nat) (h : i < g.length) : (g[i]).length = ((marksSS m g)[i]'(by rw [marksSS_len]; exact h)).length := by
  rw [marksSS_at m g i h, marks_length]

/-- What holds in markInt64SS's round j. -/
def MG (w wr : World) (lo hi : Nat) (v : Value) (us : List Value) (g : List (List Int)) (m : Int) (j : Nat) : Prop :=
  wr.ownsRow lo 32 1 v us.length us ∧ (∀ i (h : i < g.length) (h' : i < us.length), Own wr lo us[i] (if i < j then (marksSS m g)[i]'(by rw [marksSS_len]; exact h) else g[i])) ∧ ChgG lo hi w wr
theorem MG.next {w wr w' : World} {lo hi : Nat} {v : Value} {us : List Value} {g : List (List Int)} {m : Int} {j : Nat} (h : MG w wr lo hi v us g m j) (hap : us.Pairwise apart2) (htops : ∀ u ∈ us, ∀ k, u.ownBlock = some k → k < hi)
    (hj : j < g.length) (hj' : j < us.length) (hm : Own w' lo us[j] (marks (m + (tot (g.take j) : Nat)) g[j].length)) (hg : wr.grownBy w' us[j].ownBlock) (hz : w'.heap.size = wr.heap.size) : MG w w' lo hi v us g m (j + 1) := by
  obtain ⟨h1, h2, h3⟩ := h
  have hoj := h2 j hj hj'
  have hc : ChgG lo hi wr w' := ChgG.of hg hz (fun k hk => ⟨(World.ownsRow.lt hoj k hk).1, htops _ (List.getElem_mem hj') k hk⟩)
  refine ⟨h1.kept hg (own_ne h1 hoj), fun i hi hi' => ?_, h3.trans hc⟩
  by_cases e : i = j
  · subst e
    rw [if_pos (by omega), marksSS_at m g i hi]
    exact hm
  · have ho := h2 i hi hi'
    have hne : us[i].ownBlock = none ∨ us[i].ownBlock ≠ us[j].ownBlock := by
      cases hv : us[i].ownBlock with
      | none => exact .inl rfl
      | some k =>
        refine .inr fun e' => ?_
        rcases Nat.lt_or_ge i j with h' | h'
        · exact (List.pairwise_iff_getElem.1 hap i j hi' hj' h') k hv e'.symm
        · exact (List.pairwise_iff_getElem.1 hap j i hj' hi' (by omega)) k e'.symm hv
    have hk := World.ownsRow.kept ho hg hne
    by_cases h' : i < j
    · rw [if_pos h'] at hk; rw [if_pos (by omega)]; exact hk
    · rw [if_neg h'] at hk; rw [if_neg (by omega)]; exact hk

end Go.Proofs.Ytijmfienaoeboaa
