/- Contracts of both ValidGraph. -/
import Derived.Test.YtllkojakeoennabGt
import Derived.Deep.RegionHeld3
import Derived.Deep.DeepCutAuto
namespace Go.Proofs.Ytllkojakeoennab
open Go Go.RowKit
set_option linter.unusedVariables false

theorem tabA_size (g : List (List Int)) : (tabA g).size = 25 := by
  unfold tabA
  split
  · rename_i h
    unfold isG at h
    have h2 := of_decide_eq_true (Bool.and_eq_true_iff.1 h).1
    rw [List.size_toArray, tabL_len _ _ h2.2]
  · rfl
theorem tabA_all (g : List (List Int)) : (tabA g).all (·.oneCell') = true := by
  unfold tabA
  split
  · exact tabL_all _ _
  · exact zeroA_all

/-- What a law with a graph holds: its own argument, and a copy. -/
def K2 (W : World) (a b : Nat) (x y : Value) : Prop := OneC W a x ∧ OneC W b y
theorem K2.keep {W W' : World} {a b : Nat} {x y : Value} (h : K2 W a b x y) (hb : Below W.heap.size W W') : K2 W' a b x y := ⟨h.1.keep hb, h.2.keep hb⟩
theorem K2.all {W : World} {a b : Nat} {x y : Value} (h : K2 W a b x y) : W.cell? ⟨a, 0, none⟩ = some x ∧ W.cell? ⟨b, 0, none⟩ = some y := ⟨h.1.1, h.2.1⟩
theorem K2.drew {W : World} {a b : Nat} {x y : Value} (h : K2 W a b x y) : K2 W.drew a b x y := h.keep (Below.refl _ _).drew

end Go.Proofs.Ytllkojakeoennab
