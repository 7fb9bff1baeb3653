/- What the walks of the laws of RunGraph and SumGraph carry. -/
import Derived.Test.YtnllllpdjfbedaaGp
namespace Go.Proofs.Ytnllllpdjfbedaa
open Go Go.RowKit
set_option linter.unusedVariables false

theorem tot_rowsOf (e0 e1 : Nat → Int) (k : Nat) : tot (rowsOf e0 e1 k) = 2 * k := by
  induction k with
  | zero => rfl
  | succ k ih =>
    rw [rowsOf_succ]
    unfold tot at *
    rw [List.map_append, List.sum_append_nat, ih]
    simp; omega
theorem rg_small (a b : Int) : (rgG a b).length ≤ 2000000 ∧ tot (rgG a b) ≤ 2000000 := by
  unfold rgG
  by_cases h : rgOk a b = true
  · rw [if_pos h, rowsOf_len, tot_rowsOf]
    have := of_decide_eq_true h
    omega
  · rw [if_neg h]; exact ⟨Nat.zero_le _, Nat.zero_le _⟩
theorem sg_small (b : Int) : (sgG b).length ≤ 2000000 ∧ tot (sgG b) ≤ 2000000 := by
  unfold sgG
  by_cases h : sgOk b = true
  · rw [if_pos h, rowsOf_len, tot_rowsOf]
    have := of_decide_eq_true h
    omega
  · rw [if_neg h]; exact ⟨Nat.zero_le _, Nat.zero_le _⟩

/-- Behind the model's answer: its block, the graph. -/
structure LA (w W : World) (b5 : Nat) (v0 : Value) (us0 : List Value) (g : List (List Int)) : Prop where
  B : Below w.heap.size w W
  o5 : OneC W b5 v0
  g0 : OwnG W w.heap.size b5 v0 us0 g
theorem LA.of {w u1 : World} {v0 : Value} {us0 : List Value} {g : List (List Int)} (t : TypeId) (ho : OwnG u1 w.heap.size u1.heap.size v0 us0 g) (hb : Below w.heap.size w u1) : LA w (u1.alloc (.cells #[v0] t)) u1.heap.size v0 us0 g :=
  ⟨hb.alloc hb.size _, OneC.new _ _ _, ho.keep ((Below.refl _ _).alloc (Nat.le_refl _) _)⟩
theorem LA.keep {w W W' : World} {b5 : Nat} {v0 : Value} {us0 : List Value} {g : List (List Int)} (h : LA w W b5 v0 us0 g) (hb : Below W.heap.size W W') : LA w W' b5 v0 us0 g :=
  ⟨h.B.trans (hb.mono h.B.size), h.o5.keep hb, h.g0.keep hb⟩

/-- Behind the program's answer, too. -/
structure LB (w W : World) (b5 : Nat) (v0 : Value) (us0 : List Value) (g : List (List Int)) (lo b7 : Nat) (v1 : Value) (us1 : List Value) (g' : List (List Int)) : Prop where
  la : LA w W b5 v0 us0 g
  o7 : OneC W b7 v1
  g1 : OwnG W lo b7 v1 us1 g'
  l1 : b5 < lo
  l2 : w.heap.size ≤ lo
theorem LB.of {w W u2 : World} {b5 : Nat} {v0 v1 : Value} {us0 us1 : List Value} {g : List (List Int)} (t : TypeId) (h : LA w W b5 v0 us0 g) (ho : OwnG u2 W.heap.size u2.heap.size v1 us1 g) (hb : Below W.heap.size W u2) : LB w (u2.alloc (.cells #[v1] t)) b5 v0 us0 g W.heap.size u2.heap.size v1 us1 g :=
  ⟨(h.keep hb).keep ((Below.refl _ _).alloc (Nat.le_refl _) _), OneC.new _ _ _, ho.keep ((Below.refl _ _).alloc (Nat.le_refl _) _), h.o5.2.2, h.B.size⟩
theorem LB.keep {w W W' : World} {b5 lo b7 : Nat} {v0 v1 : Value} {us0 us1 : List Value} {g g' : List (List Int)} (h : LB w W b5 v0 us0 g lo b7 v1 us1 g') (hb : Below W.heap.size W W') : LB w W' b5 v0 us0 g lo b7 v1 us1 g' :=
  ⟨h.la.keep hb, h.o7.keep hb, h.g1.keep hb, h.l1, h.l2⟩
theorem OneC.chg {W W' : World} {b lo hi : Nat} {x : Value} (h : OneC W b x) (hc : Chg lo hi W W') (hb : b < lo ∨ hi ≤ b) : OneC W' b x :=
  ⟨(World.cell?_of_block (hc.block _ hb)).trans h.1, (World.frozen?_of_block (hc.block _ hb)).trans h.2.1, by rw [hc.size]; exact h.2.2⟩
theorem LB.chg {w W W' : World} {b5 lo b7 : Nat} {v0 v1 : Value} {us0 us1 : List Value} {g g' g'' : List (List Int)} (h : LB w W b5 v0 us0 g lo b7 v1 us1 g') (hc : Chg lo b7 W W') (ho : OwnG W' lo b7 v1 us1 g'') : LB w W' b5 v0 us0 g lo b7 v1 us1 g'' :=
  ⟨⟨Chg.below h.la.B hc h.l2, h.la.o5.chg hc (Or.inl h.l1), h.la.g0.other hc (by have := h.l1; omega)⟩, h.o7.chg hc (Or.inr (Nat.le_refl _)), ho, h.l1, h.l2⟩
end Go.Proofs.Ytnllllpdjfbedaa
