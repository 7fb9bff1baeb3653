/- Two fractions that a law holds, and a third one that it makes. -/
import Derived.Test.YtnpigefbdadjfaaDoorMake
import Derived.Test.YtnpigefbdadjfaaDoorWide2
import Derived.Deep.RegionHeld3
import Derived.Deep.DeepCutAuto
namespace Go.Proofs.YtnpigefbdadjfaaDoor
open Go Go.RowKit
set_option linter.unusedVariables false

theorem fbox_setF {W : World} {b : Nat} {x y : Value} (h : FBox W b x y) (X Y : Value) : FBox ((W.setCell ⟨b, 0, none⟩ X).setCell ⟨b, 1, none⟩ Y) b X Y := by
  have h1 : (W.setCell ⟨b, 0, none⟩ X).cell? ⟨b, 1, none⟩ = some y := (World.cell?_setCell_other _ _ _ _ (by simp)).trans h.1.2.1
  refine ⟨⟨?_, World.cell?_setCell_same _ _ _ h1, by simpa using h.1.2.2⟩, ?_, ?_⟩
  · rw [World.cell?_setCell_other _ _ _ _ (by simp)]
    exact World.cell?_setCell_same _ _ _ h.1.1
  · simpa using h.2.1
  · simpa using h.2.2
theorem fbox_set_far {W : World} {a b : Nat} {x y : Value} (h : FBox W a x y) (hne : b ≠ a) (X Y : Value) : FBox ((W.setCell ⟨b, 0, none⟩ X).setCell ⟨b, 1, none⟩ Y) a x y := by
  refine ⟨⟨?_, ?_, by simpa using h.1.2.2⟩, by simpa using h.2.1, by simpa using h.2.2⟩
  · rw [World.cell?_setCell_far _ _ _ _ hne, World.cell?_setCell_far _ _ _ _ hne]; exact h.1.1
  · rw [World.cell?_setCell_far _ _ _ _ hne, World.cell?_setCell_far _ _ _ _ hne]; exact h.1.2.1

/-- Two fractions lie in the first two blocks. -/
def T2 (w W : World) (A B C D : Value) : Prop := FBox W w.heap.size A B ∧ FBox W (w.heap.size + 1) C D ∧ Below w.heap.size w W
/-- A third one lies behind them. -/
def NB (w W : World) (b : Nat) (X Y : Value) : Prop := w.heap.size + 1 < b ∧ FBox W b X Y
theorem T2.keep {w W W' : World} {A B C D : Value} (h : T2 w W A B C D) (hb : Below W.heap.size W W') : T2 w W' A B C D :=
  ⟨fbox_keep h.1 hb, fbox_keep h.2.1 hb, bnext h.2.2 hb⟩
theorem T2.new (w : World) (A B C D : Value) (t : TypeId) : T2 w ((w.alloc (.cells #[A, B] t)).alloc (.cells #[C, D] t)) A B C D := by
  have h := fbox_new (w.alloc (.cells #[A, B] t)) C D t
  rw [World.size_alloc] at h
  exact ⟨fbox_alloc (fbox_new w A B t) _, h, balloc (balloc (Below.refl w.heap.size w) _) _⟩
theorem T2.c0 {w W : World} {A B C D : Value} (h : T2 w W A B C D) : W.cell? ⟨w.heap.size, 0, none⟩ = some A := h.1.1.1
theorem T2.c1 {w W : World} {A B C D : Value} (h : T2 w W A B C D) : W.cell? ⟨w.heap.size, 1, none⟩ = some B := h.1.1.2.1
theorem T2.c2 {w W : World} {A B C D : Value} (h : T2 w W A B C D) : W.cell? ⟨w.heap.size + 1, 0, none⟩ = some C := h.2.1.1.1
theorem T2.c3 {w W : World} {A B C D : Value} (h : T2 w W A B C D) : W.cell? ⟨w.heap.size + 1, 1, none⟩ = some D := h.2.1.1.2.1
theorem T2.alloc {w W : World} {A B C D : Value} (h : T2 w W A B C D) (o : Obj) : T2 w (W.alloc o) A B C D := h.keep ((Below.refl _ _).alloc (Nat.le_refl _) o)
theorem T2.drew {w W : World} {A B C D : Value} (h : T2 w W A B C D) : T2 w W.drew A B C D := h.keep (Below.refl _ _).drew
theorem T2.allocN {w W : World} {A B C D : Value} (h : T2 w W A B C D) (X Y : Value) (t : TypeId) : NB w (W.alloc (.cells #[X, Y] t)) W.heap.size X Y :=
  ⟨h.2.1.1.2.2, fbox_new W X Y t⟩
theorem NB.keep {w W W' : World} {b : Nat} {X Y : Value} (h : NB w W b X Y) (hb : Below W.heap.size W W') : NB w W' b X Y := ⟨h.1, fbox_keep h.2 hb⟩
theorem NB.alloc {w W : World} {b : Nat} {X Y : Value} (h : NB w W b X Y) (o : Obj) : NB w (W.alloc o) b X Y := h.keep ((Below.refl _ _).alloc (Nat.le_refl _) o)
theorem NB.drew {w W : World} {b : Nat} {X Y : Value} (h : NB w W b X Y) : NB w W.drew b X Y := h.keep (Below.refl _ _).drew
theorem NB.set {w W : World} {b : Nat} {x y : Value} (h : NB w W b x y) (X Y : Value) : NB w ((W.setCell ⟨b, 0, none⟩ X).setCell ⟨b, 1, none⟩ Y) b X Y := ⟨h.1, fbox_setF h.2 X Y⟩
theorem T2.set {w W : World} {A B C D : Value} (h : T2 w W A B C D) {b : Nat} {x y : Value} (n : NB w W b x y) (X Y : Value) : T2 w ((W.setCell ⟨b, 0, none⟩ X).setCell ⟨b, 1, none⟩ Y) A B C D := by
  obtain ⟨n1, n2⟩ := n
  exact ⟨fbox_set_far h.1 (by omega) X Y, fbox_set_far h.2.1 (by omega) X Y, (h.2.2.setCell (by simp; omega) _).setCell (by simp; omega) _⟩
theorem NB.new3 (w : World) (A B C D X Y : Value) (t t' : TypeId) : NB w ((((w.alloc (.cells #[A, B] t)).alloc (.cells #[C, D] t)).alloc (.cells #[X, Y] t')).drew) (w.heap.size + 1 + 1) X Y := by
  have h := ((T2.new w A B C D t).allocN X Y t').drew
  rw [World.size_alloc, World.size_alloc] at h
  exact h
theorem T2.all {w W : World} {A B C D : Value} (h : T2 w W A B C D) : W.cell? ⟨w.heap.size, 0, none⟩ = some A ∧ W.cell? ⟨w.heap.size, 1, none⟩ = some B ∧ W.cell? ⟨w.heap.size + 1, 0, none⟩ = some C ∧ W.cell? ⟨w.heap.size + 1, 1, none⟩ = some D := ⟨h.c0, h.c1, h.c2, h.c3⟩
theorem NB.c0 {w W : World} {b : Nat} {X Y : Value} (h : NB w W b X Y) : W.cell? ⟨b, 0, none⟩ = some X := h.2.1.1
theorem NB.c1 {w W : World} {b : Nat} {X Y : Value} (h : NB w W b X Y) : W.cell? ⟨b, 1, none⟩ = some Y := h.2.1.2.1
theorem NB.f0 {w W : World} {b : Nat} {X Y : Value} (h : NB w W b X Y) : W.frozen? ⟨b, 0, none⟩ = false := h.2.2.1
theorem NB.f1 {w W : World} {b : Nat} {X Y : Value} (h : NB w W b X Y) : W.frozen? ⟨b, 1, none⟩ = false := h.2.2.2

/-- The two fractions, and the one that the model has answered. -/
def T4 (w W : World) (A B C D : Value) (bb : Nat) (X Y : Value) : Prop := T2 w W A B C D ∧ NB w W bb X Y
def N2 (w W : World) (b bb : Nat) (X Y : Value) : Prop := NB w W b X Y ∧ b ≠ bb
theorem T4.keep {w W W' : World} {A B C D X Y : Value} {bb : Nat} (h : T4 w W A B C D bb X Y) (hb : Below W.heap.size W W') : T4 w W' A B C D bb X Y := ⟨h.1.keep hb, h.2.keep hb⟩
theorem T4.alloc {w W : World} {A B C D X Y : Value} {bb : Nat} (h : T4 w W A B C D bb X Y) (o : Obj) : T4 w (W.alloc o) A B C D bb X Y := ⟨h.1.alloc o, h.2.alloc o⟩
theorem T4.drew {w W : World} {A B C D X Y : Value} {bb : Nat} (h : T4 w W A B C D bb X Y) : T4 w W.drew A B C D bb X Y := ⟨h.1.drew, h.2.drew⟩
theorem T4.all {w W : World} {A B C D X Y : Value} {bb : Nat} (h : T4 w W A B C D bb X Y) : W.cell? ⟨w.heap.size, 0, none⟩ = some A ∧ W.cell? ⟨w.heap.size, 1, none⟩ = some B ∧ W.cell? ⟨w.heap.size + 1, 0, none⟩ = some C ∧ W.cell? ⟨w.heap.size + 1, 1, none⟩ = some D := h.1.all
theorem T4.c0 {w W : World} {A B C D X Y : Value} {bb : Nat} (h : T4 w W A B C D bb X Y) : W.cell? ⟨w.heap.size, 0, none⟩ = some A := h.1.c0
theorem T4.c1 {w W : World} {A B C D X Y : Value} {bb : Nat} (h : T4 w W A B C D bb X Y) : W.cell? ⟨w.heap.size, 1, none⟩ = some B := h.1.c1
theorem T4.c2 {w W : World} {A B C D X Y : Value} {bb : Nat} (h : T4 w W A B C D bb X Y) : W.cell? ⟨w.heap.size + 1, 0, none⟩ = some C := h.1.c2
theorem T4.c3 {w W : World} {A B C D X Y : Value} {bb : Nat} (h : T4 w W A B C D bb X Y) : W.cell? ⟨w.heap.size + 1, 1, none⟩ = some D := h.1.c3
theorem T4.allocN {w W : World} {A B C D X Y : Value} {bb : Nat} (h : T4 w W A B C D bb X Y) (x y : Value) (t : TypeId) : N2 w (W.alloc (.cells #[x, y] t)) W.heap.size bb x y :=
  ⟨h.1.allocN x y t, Nat.ne_of_gt h.2.2.1.2.2⟩
theorem N2.keep {w W W' : World} {b bb : Nat} {X Y : Value} (h : N2 w W b bb X Y) (hb : Below W.heap.size W W') : N2 w W' b bb X Y := ⟨h.1.keep hb, h.2⟩
theorem N2.drew {w W : World} {b bb : Nat} {X Y : Value} (h : N2 w W b bb X Y) : N2 w W.drew b bb X Y := ⟨h.1.drew, h.2⟩
theorem N2.set {w W : World} {b bb : Nat} {x y : Value} (h : N2 w W b bb x y) (X Y : Value) : N2 w ((W.setCell ⟨b, 0, none⟩ X).setCell ⟨b, 1, none⟩ Y) b bb X Y := ⟨h.1.set X Y, h.2⟩
theorem T4.set {w W : World} {A B C D X Y : Value} {bb : Nat} (h : T4 w W A B C D bb X Y) {b : Nat} {x y : Value} (n : N2 w W b bb x y) (x' y' : Value) : T4 w ((W.setCell ⟨b, 0, none⟩ x').setCell ⟨b, 1, none⟩ y') A B C D bb X Y :=
  ⟨h.1.set n.1 x' y', h.2.1, fbox_set_far h.2.2 n.2 x' y'⟩
theorem N2.c0 {w W : World} {b bb : Nat} {X Y : Value} (h : N2 w W b bb X Y) : W.cell? ⟨b, 0, none⟩ = some X := h.1.c0
theorem N2.c1 {w W : World} {b bb : Nat} {X Y : Value} (h : N2 w W b bb X Y) : W.cell? ⟨b, 1, none⟩ = some Y := h.1.c1
theorem N2.f0 {w W : World} {b bb : Nat} {X Y : Value} (h : N2 w W b bb X Y) : W.frozen? ⟨b, 0, none⟩ = false := h.1.f0
theorem N2.f1 {w W : World} {b bb : Nat} {X Y : Value} (h : N2 w W b bb X Y) : W.frozen? ⟨b, 1, none⟩ = false := h.1.f1
end Go.Proofs.YtnpigefbdadjfaaDoor
