/- The program's missedChanges: the counts of changed bits that can be missed. -/
import Derived.Test.YtnpigefbdadjfaaDoorLst
import Derived.Test.YtnpigefbdadjfaaDoorCmz
namespace Go.Proofs.YtnpigefbdadjfaaDoor
open Go Go.RowKit Go.Shelf
set_option linter.unusedVariables false
attribute [local go_sem] Oper.semAt_some

/-- The counts below k that can be missed. -/
def lmL (p d L k : Nat) : List Nat := (List.range k).filter (fun c => decide (1 ≤ c) && decide (0 < cmN p d L c))
theorem lmL_one (p d L : Nat) : lmL p d L 1 = [] := rfl
theorem lmL_succ (p d L k : Nat) (h : 1 ≤ k) : lmL p d L (k + 1) = if 0 < cmN p d L k then lmL p d L k ++ [k] else lmL p d L k := by
  unfold lmL
  rw [List.range_succ, List.filter_append]
  by_cases h0 : 0 < cmN p d L k
  · rw [if_pos h0]; simp [List.filter, h, h0]
  · rw [if_neg h0]; simp [List.filter, h, h0]
theorem lmL_len (p d L k : Nat) : (lmL p d L k).length ≤ k := Nat.le_trans (List.length_filter_le _ _) (by simp)
theorem grown_below {w w' : World} (h : Below w.heap.size w w') : w.grownBy w' none := ⟨h.os, h.tape, h.output, h.size, fun k hk _ => h.block k hk⟩

end Go.Proofs.YtnpigefbdadjfaaDoor
