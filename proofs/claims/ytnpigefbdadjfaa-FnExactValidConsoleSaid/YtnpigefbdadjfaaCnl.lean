/- What a law with a console holds: its own argument, and a copy of it. -/
import Derived.Test.YtnpigefbdadjfaaCns
import Derived.Deep.RegionHeld3
import Derived.Deep.DeepCutAuto
namespace Go.Proofs.Ytnpigefbdadjfaa
open Go Go.RowKit
set_option linter.unusedVariables false
theorem rds_sh2 {w : World} {v : Value} {l : List ByteArray} (h : RdS w v l) : ∃ A n c, v = .slice A n c := by
  obtain ⟨A, n, c, e, -⟩ := h
  exact ⟨A, n, c, e⟩
theorem cn_all {W : World} {b : Nat} {vm vp : Value} (h : Bk W b (cnV vm vp)) : W.cell? ⟨b, 0, none⟩ = some vm ∧ W.cell? ⟨b, 1, none⟩ = some vp :=
  ⟨h.c 0 _ rfl, h.c 1 _ rfl⟩
def KC (W : World) (a b : Nat) (v1 v2 u1 u2 : Value) : Prop := Bk W a (cnV v1 v2) ∧ Bk W b (cnV u1 u2)
theorem KC.keep {W W' : World} {a b : Nat} {v1 v2 u1 u2 : Value} (h : KC W a b v1 v2 u1 u2) (hb : Below W.heap.size W W') : KC W' a b v1 v2 u1 u2 := ⟨h.1.keep hb, h.2.keep hb⟩
theorem KC.drew {W : World} {a b : Nat} {v1 v2 u1 u2 : Value} (h : KC W a b v1 v2 u1 u2) : KC W.drew a b v1 v2 u1 u2 := h.keep (Below.refl _ _).drew
theorem KC.all {W : World} {a b : Nat} {v1 v2 u1 u2 : Value} (h : KC W a b v1 v2 u1 u2) :
    W.cell? ⟨a, 0, none⟩ = some v1 ∧ W.cell? ⟨a, 1, none⟩ = some v2 ∧ W.cell? ⟨b, 0, none⟩ = some u1 ∧ W.cell? ⟨b, 1, none⟩ = some u2 :=
  ⟨h.1.c 0 _ rfl, h.1.c 1 _ rfl, h.2.c 0 _ rfl, h.2.c 1 _ rfl⟩
end Go.Proofs.Ytnpigefbdadjfaa
