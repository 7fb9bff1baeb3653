/- Blocks of cells of a type; a strings.Builder beside them: WriteByte, WriteString, Len, and what they leave. -/
import Derived.Test.YtmhdjimdhcephabBld
import Derived.Lib.Hide
import Derived.Laws.IdiomStrings
import Derived.Deep.QuietTactic
import Derived.BigQuiet
namespace Go.Proofs.Ytmhdjimdhcephab
open Go Go.RowKit
set_option linter.unusedVariables false

/-- A block of cells of a type. -/
def Blk (w : World) (b : Nat) (T : TypeId) (cs : List Value) : Prop := w.heap[b]? = some (.cells cs.toArray T (0, 0))
theorem Blk.cell {w : World} {b : Nat} {T : TypeId} {cs : List Value} (h : Blk w b T cs) (j : Nat) (x : Value) (hx : cs[j]? = some x) : w.cell? ⟨b, j, none⟩ = some x := by
  rw [Lib.cell_of_heap h]; simpa using hx
theorem Blk.frozen {w : World} {b : Nat} {T : TypeId} {cs : List Value} (h : Blk w b T cs) (j : Nat) : w.frozen? ⟨b, j, none⟩ = false := Lib.frozen_of_heap h j
theorem Blk.lt {w : World} {b : Nat} {T : TypeId} {cs : List Value} (h : Blk w b T cs) : b < w.heap.size := by
  rcases Nat.lt_or_ge b w.heap.size with h' | h'
  · exact h'
  · unfold Blk at h; rw [Array.getElem?_eq_none h'] at h; cases h
theorem Blk.new (w : World) (cs : List Value) (T : TypeId) (b : Nat) (hb : b = w.heap.size) : Blk (w.alloc (.cells cs.toArray T)) b T cs := by subst hb; exact heap_alloc_new w _
theorem Blk.below {B : Nat} {w w' : World} {b : Nat} {T : TypeId} {cs : List Value} (h : Blk w b T cs) (hb : Below B w w') (hB : b < B) : Blk w' b T cs := (hb.block b hB).trans h
theorem Blk.keep {w w' : World} {b : Nat} {T : TypeId} {cs : List Value} (h : Blk w b T cs) (hb : Below w.heap.size w w') : Blk w' b T cs := h.below hb h.lt
theorem Blk.alloc {w : World} {b : Nat} {T : TypeId} {cs : List Value} (h : Blk w b T cs) (o : Obj) : Blk (w.alloc o) b T cs := h.keep ((Below.refl _ _).alloc (Nat.le_refl _) o)
theorem Blk.drewN {w : World} {b : Nat} {T : TypeId} {cs : List Value} (h : Blk w b T cs) (q : Nat) : Blk (w.drewN q) b T cs := by unfold Blk at *; simpa using h
theorem Blk.drew {w : World} {b : Nat} {T : TypeId} {cs : List Value} (h : Blk w b T cs) : Blk w.drew b T cs := h
theorem Blk.set {w : World} {b : Nat} {T : TypeId} {cs : List Value} (h : Blk w b T cs) (j : Nat) (x : Value) : Blk (w.setCell ⟨b, j, none⟩ x) b T (cs.set j x) := by
  unfold Blk at *
  simp [World.setCell, Array.getElem?_modify, h]
theorem Blk.far {w : World} {b : Nat} {T : TypeId} {cs : List Value} (h : Blk w b T cs) (p : Addr) (hp : p.block ≠ b) (x : Value) : Blk (w.setCell p x) b T cs :=
  (Below.heap_setCell _ _ _ _ (fun e => hp e.symm)).trans h
theorem Blk.grown {w w' : World} {b : Nat} {T : TypeId} {cs : List Value} {row : Option Nat} (h : Blk w b T cs) (hg : w.grownBy w' row) (hne : row ≠ some b) : Blk w' b T cs := (hg.block b h.lt (fun e => hne e.symm)).trans h

/-- What a builder's writing leaves: blocks of other types than its bytes, and not the builder itself. -/
structure Wr (e : TypeId) (b : Nat) (w w' : World) : Prop where
  os : w'.os = w.os
  tape : w'.tape = w.tape
  output : w'.output = w.output
  size : w.heap.size ≤ w'.heap.size
  block : ∀ (k : Nat) (cs : Array Value) (T : TypeId) (fr : Nat × Nat), w.heap[k]? = some (.cells cs T fr) → T ≠ e → k ≠ b → w'.heap[k]? = some (.cells cs T fr)
theorem Wr.trans {e : TypeId} {b : Nat} {w w1 w2 : World} (h : Wr e b w w1) (k : Wr e b w1 w2) : Wr e b w w2 :=
  ⟨k.os.trans h.os, k.tape.trans h.tape, k.output.trans h.output, Nat.le_trans h.size k.size, fun j cs T fr hj ht hn => k.block j cs T fr (h.block j cs T fr hj ht hn) ht hn⟩
theorem Wr.of_below {e : TypeId} {b : Nat} {w w' : World} (hb : Below w.heap.size w w') : Wr e b w w' :=
  ⟨hb.os, hb.tape, hb.output, hb.size, fun j cs T fr hj _ _ => by
    have hl : j < w.heap.size := by
      rcases Nat.lt_or_ge j w.heap.size with h' | h'
      · exact h'
      · rw [Array.getElem?_eq_none h'] at hj; cases hj
    exact (hb.block j hl).trans hj⟩
theorem Wr.of_grown {e : TypeId} {b B n : Nat} {w w' : World} {v : Value} {xs : List Value} (hown : w.ownsRow B e 1 v n xs) (hg : w.grownBy w' v.ownBlock) : Wr e b w w' :=
  ⟨hg.os, hg.tape, hg.output, hg.size, fun j cs T fr hj ht _ => by
    have hl : j < w.heap.size := by
      rcases Nat.lt_or_ge j w.heap.size with h' | h'
      · exact h'
      · rw [Array.getElem?_eq_none h'] at hj; cases hj
    exact (hg.block j hl (fun x => Lib.ownBlock_ne hown hj ht x.symm)).trans hj⟩
theorem Wr.of_set {e : TypeId} {b : Nat} (w : World) (j : Nat) (x : Value) : Wr e b w (w.setCell ⟨b, j, none⟩ x) :=
  ⟨rfl, rfl, rfl, by simp [World.setCell], fun k cs T fr hk _ hn => (Below.heap_setCell _ _ _ _ (fun h => hn h)).trans hk⟩
theorem Blk.wr {w w' : World} {b k : Nat} {e T : TypeId} {cs : List Value} (h : Blk w k T cs) (hw : Wr e b w w') (ht : T ≠ e) (hn : k ≠ b) : Blk w' k T cs := hw.block k _ T _ h ht hn

/-- A builder beside a step that leaves it. -/
theorem isBl_grown {T e T' : TypeId} {B b k : Nat} {bs cs : List Value} {w w' : World} (h : Lib.IsBuilder T e B b bs w) (hg : w.grownBy w' (some k)) (hk : Blk w k T' cs) (ht : T' ≠ e) (hn : k ≠ b) : Lib.IsBuilder T e B b bs w' := by
  have aux : ∀ p, Lib.BuilderAt T e B b p bs w → Lib.BuilderAt T e B b p bs w' := by
    rintro p ⟨hB, v, hb, hown, hne⟩
    have hl : b < w.heap.size := Lib.BuilderAt.lt ⟨hB, v, hb, hown, hne⟩
    exact ⟨hB, v, (hg.block b hl (fun x => hn (by injection x with x; exact x.symm))).trans hb, hown.kept hg (Or.inr (Lib.ownBlock_ne hown hk ht)), hne⟩
  rcases h with h | h
  · exact .inl (aux _ h)
  · exact .inr (aux _ h)
theorem isBl_keep {T e : TypeId} {B b : Nat} {bs : List Value} {w w' : World} (h : Lib.IsBuilder T e B b bs w) (hb : Below w.heap.size w w') : Lib.IsBuilder T e B b bs w' := by
  have aux : ∀ p, Lib.BuilderAt T e B b p bs w → Lib.BuilderAt T e B b p bs w' := by
    rintro p ⟨hB, v, hbk, hown, hne⟩
    have hl : b < w.heap.size := Lib.BuilderAt.lt ⟨hB, v, hbk, hown, hne⟩
    exact ⟨hB, v, (hb.block b hl).trans hbk, hown.kept (row := none) ⟨hb.os, hb.tape, hb.output, hb.size, fun j hj _ => hb.block j hj⟩ (by cases v.ownBlock <;> simp), hne⟩
  rcases h with h | h
  · exact .inl (aux _ h)
  · exact .inr (aux _ h)
theorem isBl_lt {T e : TypeId} {B b : Nat} {bs : List Value} {w : World} (h : Lib.IsBuilder T e B b bs w) : b < w.heap.size := by
  rcases h with h | h
  · exact h.lt
  · exact h.lt
theorem isBl_base {T e : TypeId} {B b : Nat} {bs : List Value} {w : World} (h : Lib.IsBuilder T e B b bs w) : B ≤ b := by
  rcases h with h | h
  · exact h.1
  · exact h.1

theorem c1_byte (wr : World) (x : Value) (t : TypeId) : ∀ (j : Nat) (u : Value), [x][j]? = some u → (wr.alloc (.cells #[x] t)).cell? ((⟨wr.heap.size, 0, none⟩ : Addr).add j) = some u := by
  intro j u hj
  match j, hj with
  | 0, hj =>
    simp at hj; subst hj
    rw [show ((⟨wr.heap.size, 0, none⟩ : Addr).add 0) = ⟨wr.heap.size, 0, none⟩ from by simp [Addr.add]]
    rw [World.cell?_alloc_at _ _ _ _ rfl]; rfl
theorem wr_alloc {e : TypeId} {b : Nat} (w : World) (o : Obj) : Wr e b w (w.alloc o) := Wr.of_below ((Below.refl _ _).alloc (Nat.le_refl _) o)

end Go.Proofs.Ytmhdjimdhcephab
