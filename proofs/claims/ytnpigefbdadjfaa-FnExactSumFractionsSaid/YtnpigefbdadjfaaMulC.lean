/- The program's product of fractions. -/
import Derived.Test.YtnpigefbdadjfaaMulB
import Derived.Deep.RegionHeld3
namespace Go.Proofs.Ytnpigefbdadjfaa
open Go Go.RowKit
set_option linter.unusedVariables false

theorem mul_fits {x y : Int} (x1 : -1000000000000000000 ≤ x) (x2 : x ≤ 1000000000000000000) (y1 : -1000000000000000000 ≤ y) (y2 : y ≤ 1000000000000000000) : Fits (x * y) := by
  have h := mul_bd (x.natAbs : Int) (y.natAbs : Int) 1000000000000000000 1000000000000000000 (by omega) (by omega) (by omega) (by omega)
  have e := mul_parts x y
  generalize (x.natAbs : Int) * y.natAbs = P at *
  generalize x * y = Z at *
  unfold Fits
  split at e <;> omega

def T3 (w W : World) (a c r : Nat) (A B C D X Y : Value) : Prop := FBox W a A B ∧ FBox W c C D ∧ FBox W r X Y ∧ Below w.heap.size w W
theorem T3.keep {w W W' : World} {a c r : Nat} {A B C D X Y : Value} (h : T3 w W a c r A B C D X Y) (hb : Below W.heap.size W W') : T3 w W' a c r A B C D X Y :=
  ⟨fbox_keep h.1 hb, fbox_keep h.2.1 hb, fbox_keep h.2.2.1 hb, bnext h.2.2.2 hb⟩

end Go.Proofs.Ytnpigefbdadjfaa
