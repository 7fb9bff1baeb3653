/- What a package-level error variable holds. -/
import Derived.Test.YtnpigefbdadjfaaDoorProg
import Derived.WalkKit
import Derived.Below
namespace Go.Proofs.YtnpigefbdadjfaaDoor
open Go Go.RowKit
set_option linter.unusedVariables false

/-- The variable g holds a pointer to an error's text. -/
structure Ev (g : Nat) (a : Addr) (w : World) : Prop where
  cell : w.cell? ⟨g, 0, none⟩ = some (.iface 219 (.pointer (some a)))
theorem Ev.lt {g : Nat} {a : Addr} {w : World} (h : Ev g a w) : g < w.heap.size := by
  rcases Nat.lt_or_ge g w.heap.size with h' | h'
  · exact h'
  · have := h.cell
    simp [World.cell?, Array.getElem?_eq_none h'] at this
theorem Ev.keep {g : Nat} {a : Addr} {w w' : World} (h : Ev g a w) (hb : Below w.heap.size w w') : Ev g a w' :=
  ⟨by rw [hb.cell (p := ⟨g, 0, none⟩) h.lt]; exact h.cell⟩
/-- Behind whatever leaves all below a number that was there. -/
theorem Ev.keepB {g B : Nat} {a : Addr} {w0 w w' : World} (h : Ev g a w0) (h0 : Below w0.heap.size w0 w) (hb : Below w0.heap.size w w') : Ev g a w' := h.keep (h0.trans hb)
end Go.Proofs.YtnpigefbdadjfaaDoor
