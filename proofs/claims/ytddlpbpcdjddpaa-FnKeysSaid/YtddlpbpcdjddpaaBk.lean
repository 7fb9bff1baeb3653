/- Blocks of a few cells that a call itself holds: what they read as, across calls and stores. -/
import Derived.WalkKit
import Derived.Lib.Hide
import Derived.Deep.RegionHeld
import Derived.Deep.QuietTactic
import Derived.BigQuiet
namespace Go.Proofs.Ytddlpbpcdjddpaa
open Go Go.RowKit
set_option linter.unusedVariables false

/-- A block of cells. -/
def Bk (W : World) (b : Nat) (cs : List Value) : Prop := (∀ i x, cs[i]? = some x → W.cell? ⟨b, i, none⟩ = some x) ∧ (∀ i, i < cs.length → W.frozen? ⟨b, i, none⟩ = false) ∧ b < W.heap.size
theorem Bk.new (w : World) (cs : List Value) (t : TypeId) (b : Nat) (hb : b = w.heap.size) : Bk (w.alloc (.cells cs.toArray t)) b cs :=
  ⟨fun i x h => by rw [World.cell?_alloc_at _ _ _ _ hb]; simpa using h, fun i _ => World.frozen?_alloc_at _ _ _ _ hb, by simp; omega⟩
theorem Bk.keep {W W' : World} {b : Nat} {cs : List Value} (h : Bk W b cs) (hb : Below W.heap.size W W') : Bk W' b cs :=
  ⟨fun i x hx => (hb.cell (p := ⟨b, i, none⟩) h.2.2).trans (h.1 i x hx), fun i hi => (hb.frozen (p := ⟨b, i, none⟩) h.2.2).trans (h.2.1 i hi), Nat.lt_of_lt_of_le h.2.2 hb.size⟩
theorem Bk.alloc {W : World} {b : Nat} {cs : List Value} (h : Bk W b cs) (o : Obj) : Bk (W.alloc o) b cs := h.keep ((Below.refl _ _).alloc (Nat.le_refl _) o)
theorem Bk.drew {W : World} {b : Nat} {cs : List Value} (h : Bk W b cs) : Bk W.drew b cs := h.keep (Below.refl _ _).drew
theorem Bk.drewN {W : World} {b : Nat} {cs : List Value} (h : Bk W b cs) (q : Nat) : Bk (W.drewN q) b cs := ⟨fun i x hx => by simpa using h.1 i x hx, fun i hi => by simpa using h.2.1 i hi, by simpa using h.2.2⟩
theorem Bk.c {W : World} {b : Nat} {cs : List Value} (h : Bk W b cs) (i : Nat) (x : Value) (hx : cs[i]? = some x) : W.cell? ⟨b, i, none⟩ = some x := h.1 i x hx
theorem Bk.f {W : World} {b : Nat} {cs : List Value} (h : Bk W b cs) (i : Nat) (hi : i < cs.length) : W.frozen? ⟨b, i, none⟩ = false := h.2.1 i hi
theorem Bk.set {W : World} {b : Nat} {cs : List Value} (h : Bk W b cs) (i : Nat) (hi : i < cs.length) (x : Value) : Bk (W.setCell ⟨b, i, none⟩ x) b (cs.set i x) := by
  refine ⟨fun j y hy => ?_, fun j hj => ?_, by simpa [World.setCell] using h.2.2⟩
  · by_cases e : i = j
    · subst e
      rw [List.getElem?_set_self hi] at hy
      injection hy with hy
      subst hy
      exact World.cell?_setCell_same _ _ _ (h.1 i cs[i] (List.getElem?_eq_getElem hi))
    · rw [List.getElem?_set_ne e] at hy
      rw [World.cell?_setCell_other _ _ _ _ (by intro h'; injection h' with _ h' _; exact e h')]
      exact h.1 j y hy
  · rw [World.frozen?_setCell]; exact h.2.1 j (by simpa using hj)
theorem Bk.far {W : World} {b : Nat} {cs : List Value} (h : Bk W b cs) (p : Addr) (hp : p.block ≠ b) (x : Value) : Bk (W.setCell p x) b cs :=
  ⟨fun i y hy => by rw [World.cell?_setCell_far _ _ _ _ hp]; exact h.1 i y hy, fun i hi => by rw [World.frozen?_setCell]; exact h.2.1 i hi, by simpa [World.setCell] using h.2.2⟩
end Go.Proofs.Ytddlpbpcdjddpaa
