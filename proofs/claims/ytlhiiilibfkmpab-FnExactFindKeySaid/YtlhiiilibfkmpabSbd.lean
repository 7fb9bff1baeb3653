/- The model's l06Descramble and SelfDescramble. -/
import Derived.Test.YtlhiiilibfkmpabSbs
import Derived.Test.YtlhiiilibfkmpabApp
namespace Go.Proofs.Ytlhiiilibfkmpab
open Go Go.RowKit
set_option linter.unusedVariables false
theorem apN_other {wr w1 : World} {base : Nat} {u v : Value} {q : List Nat} {o : Obj} (hu : OwnN wr base u q) (ha : Apart u v) (hg : (wr.alloc o).grownBy w1 v.ownBlock) : OwnN w1 base u q := by
  refine World.ownsRow.kept (World.ownsRow.alloc hu o) hg ?_
  cases hb : u.ownBlock with
  | none => exact .inl rfl
  | some k => exact .inr fun e => ha k hb e.symm
theorem apN_apart {wr : World} {base H g n cap : Nat} {u v : Value} {q : List Nat} (hu : OwnN wr base u q) (ha : Apart u v) (hat : v.ownBlock = some g ∨ g = H) (hH : wr.heap.size ≤ H) : Apart u (.slice (some ⟨g, 0, none⟩) n cap) := by
  intro k h1 h2
  simp [Value.ownBlock] at h2
  subst h2
  rcases hat with h | h
  · exact ha g h1 h
  · have := (World.ownsRow.lt hu g h1).2
    omega
end Go.Proofs.Ytlhiiilibfkmpab
