/- Slices of whatever values of one cell that are read, in blocks of which a word is known; their parts. -/
import Derived.Test.YtddlpbpcdjddpaaBlr
import Derived.OwnWalk
namespace Go.Proofs.Ytddlpbpcdjddpaa
open Go Go.RowKit
set_option linter.unusedVariables false

/-- A slice value reads as values, in a block of which K holds. -/
def RdV (K : Nat → Prop) (w : World) (v : Value) (l : List Value) : Prop :=
  ∃ (A : Option Addr) (n c : Nat), v = .slice A n c ∧ l.length = n ∧ n ≤ c ∧ n ≤ maxLen ∧
    (0 < n → ∃ b o, A = some ⟨b, o, none⟩ ∧ K b ∧ b < w.heap.size ∧ ∀ i x, l[i]? = some x → w.cell? ⟨b, o + i, none⟩ = some x)
theorem RdV.len {K : Nat → Prop} {w : World} {v : Value} {l : List Value} (h : RdV K w v l) : l.length ≤ maxLen := by
  obtain ⟨A, n, c, e, hn, h1, h2, h3⟩ := h
  omega
theorem RdV.sh {K : Nat → Prop} {w : World} {v : Value} {l : List Value} (h : RdV K w v l) : ∃ A c, v = .slice A l.length c ∧ l.length ≤ c := by
  obtain ⟨A, n, c, e, hn, h1, h2, h3⟩ := h
  exact ⟨A, c, by rw [hn]; exact e, by omega⟩
theorem RdV.same {K : Nat → Prop} {w w' : World} {v : Value} {l : List Value} (h : RdV K w v l) (hb : ∀ b, K b → b < w.heap.size → w'.heap[b]? = w.heap[b]?) (hs : w.heap.size ≤ w'.heap.size) : RdV K w' v l := by
  obtain ⟨A, n, c, e, hn, h1, h2, h3⟩ := h
  refine ⟨A, n, c, e, hn, h1, h2, fun h0 => ?_⟩
  obtain ⟨b, o, ea, hK, hlt, hc⟩ := h3 h0
  refine ⟨b, o, ea, hK, Nat.lt_of_lt_of_le hlt hs, fun i x hx => ?_⟩
  have := hb b hK hlt
  have h' := hc i x hx
  unfold World.cell? at h' ⊢
  simp only at h' ⊢
  rw [this]; exact h'
theorem RdV.keep {K : Nat → Prop} {w w' : World} {v : Value} {l : List Value} (h : RdV K w v l) (hb : Below w.heap.size w w') : RdV K w' v l := h.same (fun b _ hb' => hb.block b hb') hb.size
theorem RdV.chg {K : Nat → Prop} {w w' : World} {lo k : Nat} {v : Value} {l : List Value} (h : RdV K w v l) (hc : Chg lo k w w') (hK : ∀ b, K b → b < lo ∧ b ≠ k) : RdV K w' v l := h.same (fun b hb _ => hc.block b (hK b hb).1 (hK b hb).2) hc.size
theorem RdV.set {K : Nat → Prop} {w : World} {v : Value} {l : List Value} (h : RdV K w v l) (b j : Nat) (x : Value) (hn : ¬ K b) : RdV K (w.setCell ⟨b, j, none⟩ x) v l :=
  h.same (fun c hc _ => Below.heap_setCell _ _ _ _ (fun e => hn (by rw [← show c = b from e]; exact hc))) (by simp [World.setCell])
theorem RdV.drop {K : Nat → Prop} {w : World} {A : Option Addr} {n c : Nat} {l : List Value} (h : RdV K w (.slice A n c) l) (t : Nat) (ht : t ≤ l.length) : RdV K w (.slice (if c = t then A else A.map (·.add t)) (n - t) (c - t)) (l.drop t) := by
  obtain ⟨A', n', c', e, hn, h1, h2, h3⟩ := h
  injection e with e1 e2 e3
  subst e1; subst e2; subst e3
  refine ⟨_, _, _, rfl, by rw [List.length_drop]; omega, by omega, by omega, fun h0 => ?_⟩
  obtain ⟨b, o, ea, hK, hlt, hc⟩ := h3 (by omega)
  subst ea
  rw [if_neg (by omega)]
  refine ⟨b, o + t, by simp [Addr.add], hK, hlt, fun i x hx => ?_⟩
  rw [List.getElem?_drop] at hx
  rw [Nat.add_assoc]
  exact hc _ _ hx
theorem RdV.take {K : Nat → Prop} {w : World} {A : Option Addr} {n c : Nat} {l : List Value} (h : RdV K w (.slice A n c) l) (t : Nat) (ht : t ≤ l.length) : RdV K w (.slice A t c) (l.take t) := by
  obtain ⟨A', n', c', e, hn, h1, h2, h3⟩ := h
  injection e with e1 e2 e3
  subst e1; subst e2; subst e3
  refine ⟨_, _, _, rfl, by rw [List.length_take]; omega, by omega, by omega, fun h0 => ?_⟩
  obtain ⟨b, o, ea, hK, hlt, hc⟩ := h3 (by omega)
  refine ⟨b, o, ea, hK, hlt, fun i x hx => ?_⟩
  rw [List.getElem?_take] at hx
  split at hx
  · exact hc _ _ hx
  · cases hx
/-- The first value of a slice. -/
theorem RdV.head {K : Nat → Prop} {w : World} {A : Option Addr} {n c : Nat} {x : Value} {l : List Value} (h : RdV K w (.slice A n c) (x :: l)) : ∃ b o, A = some ⟨b, o, none⟩ ∧ w.cell? ⟨b, o, none⟩ = some x ∧ 0 < n := by
  obtain ⟨A', n', c', e, hn, h1, h2, h3⟩ := h
  injection e with e1 e2 e3
  subst e1; subst e2; subst e3
  obtain ⟨b, o, ea, hK, hlt, hc⟩ := h3 (by simp at hn; omega)
  exact ⟨b, o, ea, hc 0 x rfl, by simp at hn; omega⟩
end Go.Proofs.Ytddlpbpcdjddpaa
