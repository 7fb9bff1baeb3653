/- What the sum of fractions asks: sizes, boxes that are kept. -/
import Derived.Test.YtnpigefbdadjfaaDoorMulC
import Derived.Test.YtnpigefbdadjfaaDoorRm6
import Derived.Deep.RegionHeld3
namespace Go.Proofs.YtnpigefbdadjfaaDoor
open Go Go.RowKit
set_option linter.unusedVariables false

theorem fits_add {x y : Int} (hx : -1000000000000000000000000000000000000 ≤ x ∧ x ≤ 1000000000000000000000000000000000000) (hy : -1000000000000000000000000000000000000 ≤ y ∧ y ≤ 1000000000000000000000000000000000000) : Fits (x + y) := ⟨by omega, by omega⟩
theorem mul_bds {x y : Int} (x1 : -1000000000000000000 ≤ x) (x2 : x ≤ 1000000000000000000) (y1 : -1000000000000000000 ≤ y) (y2 : y ≤ 1000000000000000000) : -1000000000000000000000000000000000000 ≤ x * y ∧ x * y ≤ 1000000000000000000000000000000000000 := by
  have h := mul_bd (x.natAbs : Int) (y.natAbs : Int) 1000000000000000000 1000000000000000000 (by omega) (by omega) (by omega) (by omega)
  have e := mul_parts x y
  generalize (x.natAbs : Int) * y.natAbs = P at *
  generalize x * y = Z at *
  split at e <;> omega
/-- The boxes of the arguments and of the result, by their cells. -/
theorem T3.cells {w W : World} {a c r : Nat} {A B C D X Y : Value} (h : T3 w W a c r A B C D X Y) : W.cell? ⟨a, 0, none⟩ = some A ∧ W.cell? ⟨a, 1, none⟩ = some B ∧ W.cell? ⟨c, 0, none⟩ = some C ∧ W.cell? ⟨c, 1, none⟩ = some D ∧ T3 w W a c r A B C D X Y :=
  ⟨h.1.1.1, h.1.1.2.1, h.2.1.1.1, h.2.1.1.2.1, h⟩
theorem T3.made {w W : World} {a c r : Nat} {A B C D X Y : Value} (h : T3 w W a c r A B C D X Y) (o : Obj) : T3 w (W.alloc o) a c r A B C D X Y := h.keep ((Below.refl _ _).alloc (Nat.le_refl _) o)
theorem fbox_below {W W' : World} {b B : Nat} {x y : Value} (h : FBox W b x y) (hb : Below B W W') (hB : b < B) : FBox W' b x y :=
  ⟨box_below h.1 hb hB, (hb.frozen (p := ⟨b, 0, none⟩) hB).trans h.2.1, (hb.frozen (p := ⟨b, 1, none⟩) hB).trans h.2.2⟩
theorem T3.stored {w W : World} {a c r : Nat} {A B C D X Y : Value} (h : T3 w W a c r A B C D X Y) {bb : Nat} (x y : Value) (ha : a < bb) (hc : c < bb) (hr : r < bb) (hw : w.heap.size ≤ bb) : T3 w ((W.setCell ⟨bb, 0, none⟩ x).setCell ⟨bb, 1, none⟩ y) a c r A B C D X Y := by
  have hb : Below bb W ((W.setCell ⟨bb, 0, none⟩ x).setCell ⟨bb, 1, none⟩ y) := ((Below.refl bb W).setCell (p := ⟨bb, 0, none⟩) (Nat.le_refl _) _).setCell (p := ⟨bb, 1, none⟩) (Nat.le_refl _) _
  exact ⟨fbox_below h.1 hb ha, fbox_below h.2.1 hb hc, fbox_below h.2.2.1 hb hr, h.2.2.2.trans (hb.mono hw)⟩
theorem ovV_fits {Z : Int} {d : Nat} (h : Fits Z) : Fits (ovV Z d) := by
  obtain ⟨h1, h2⟩ := h
  have := Nat.div_le_self Z.natAbs d
  unfold ovV Fits
  generalize Z.natAbs / d = x at *
  split <;> omega
theorem tdiv_nat (a b : Nat) : Int.tdiv (a : Int) (b : Int) = ((a / b : Nat) : Int) := by
  rw [Int.tdiv_eq_ediv_of_nonneg (by omega)]; rfl
/-- The sum, what it has in common with the denominators, and the parts. -/
def adT (fn gn : Int) (fd gd : Nat) : Int := fn * ((gd / Nat.gcd fd gd : Nat) : Int) + gn * ((fd / Nat.gcd fd gd : Nat) : Int)
def adS (fn gn : Int) (fd gd : Nat) : Nat := Nat.gcd ((adT fn gn fd gd).natAbs % Nat.gcd fd gd) (Nat.gcd fd gd)
def adN (fn gn : Int) (fd gd : Nat) : Int := ovV (adT fn gn fd gd) (adS fn gn fd gd)
def adM (fn gn : Int) (fd gd : Nat) : Int := ((fd / Nat.gcd fd gd : Nat) : Int) * ((gd / adS fn gn fd gd : Nat) : Int)

/-- A box that is stored into. -/
theorem fbox_set {W : World} {b : Nat} {x y : Value} (h : FBox W b x y) (x' y' : Value) : FBox ((W.setCell ⟨b, 0, none⟩ x').setCell ⟨b, 1, none⟩ y') b x' y' := by
  have e : (W.setCell ⟨b, 0, none⟩ x').setCell ⟨b, 1, none⟩ y' = W.setCells b 0 [x', y'] := rfl
  have hsz : W.heap.size ≤ ((W.setCell ⟨b, 0, none⟩ x').setCell ⟨b, 1, none⟩ y').heap.size := (((Below.refl 0 W).setCell (p := ⟨b, 0, none⟩) (Nat.zero_le _) x').setCell (p := ⟨b, 1, none⟩) (Nat.zero_le _) y').size
  have hb := h.1.2.2
  rw [e] at hsz ⊢
  have hin := World.cell?_setCells_in b [x', y'] 0 W (fun j hj => by
    match j, hj with
    | 0, _ => rw [show (0 + 0 : Nat) = 0 from rfl, h.1.1]; rfl
    | 1, _ => rw [show (0 + 1 : Nat) = 1 from rfl, h.1.2.1]; rfl)
  refine ⟨⟨hin 0 (by simp), hin 1 (by simp), by omega⟩, ?_, ?_⟩
  · rw [World.frozen?_setCells]; exact h.2.1
  · rw [World.frozen?_setCells]; exact h.2.2
end Go.Proofs.YtnpigefbdadjfaaDoor
