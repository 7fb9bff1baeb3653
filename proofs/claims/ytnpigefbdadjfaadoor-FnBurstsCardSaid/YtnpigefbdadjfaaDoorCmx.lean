/- The program's countMissed. -/
import Derived.Test.YtnpigefbdadjfaaDoorNxm
import Derived.Test.YtnpigefbdadjfaaDoorDvx
import Derived.Lib.OthersKept
namespace Go.Proofs.YtnpigefbdadjfaaDoor
open Go Go.RowKit Go.Shelf
set_option linter.unusedVariables false
attribute [local go_sem] Oper.semAt_some

theorem kpB {w w' : World} (h : Below w.heap.size w w') : KeepsOthers w w' :=
  ⟨h.size, fun k o hk _ => (h.block k (Array.getElem?_eq_some_iff.1 hk).1).trans hk⟩
theorem Bk.grown {W W' : World} {row : Option Nat} {b : Nat} {cs : List Value} (h : Bk W b cs) (h0 : 0 < cs.length) (hg : W.grownBy W' row) (hr : ∀ r, row = some r → ∃ o : Obj, W.heap[r]? = some o ∧ o.isCells = false) : Bk W' b cs :=
  ⟨fun i x hx => cell_kept (h.1 i x hx) hg hr, fun i hi => (frozen_kept (h.1 i _ (List.getElem?_eq_getElem hi)) hg hr).trans (h.2.1 i hi), Nat.lt_of_lt_of_le h.2.2 hg.size⟩
theorem hsetB (W : World) (a : Addr) (v : Value) (k : Nat) (h : k ≠ a.block) : (W.setCell a v).heap[k]? = W.heap[k]? := by
  show (W.heap.modify a.block _)[k]? = _
  rw [Array.getElem?_modify, if_neg (fun e => h e.symm)]
theorem kpS_below {S : Nat} {W W' : World} (h : Below W.heap.size W W') (hs : S + 1 < W.heap.size) : KpS S W W' :=
  ⟨Nat.lt_of_lt_of_le hs h.size, h.block S (by omega), h.block (S + 1) hs⟩

end Go.Proofs.YtnpigefbdadjfaaDoor
