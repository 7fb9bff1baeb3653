/- What a law with a block code holds: its own argument, and a copy of it. -/
import Derived.Test.YtjmaapbodacggaaBc
import Derived.Deep.RegionHeld3
import Derived.Deep.DeepCutAuto
namespace Go.Proofs.Ytjmaapbodacggaa
open Go Go.RowKit
set_option linter.unusedVariables false
theorem rds_sh2 {w : World} {v : Value} {l : List ByteArray} (h : RdS w v l) : ∃ A n c, v = .slice A n c := by
  obtain ⟨A, n, c, e, -⟩ := h
  exact ⟨A, n, c, e⟩
theorem bc_all {W : World} {b : Nat} {d wd : Int} {vm vp : Value} (h : Bk W b (bcV d wd vm vp)) : W.cell? ⟨b, 0, none⟩ = some (.int .i64 d) ∧ W.cell? ⟨b, 1, none⟩ = some (.int .i64 wd) ∧ W.cell? ⟨b, 2, none⟩ = some vm ∧ W.cell? ⟨b, 3, none⟩ = some vp :=
  ⟨h.c 0 _ rfl, h.c 1 _ rfl, h.c 2 _ rfl, h.c 3 _ rfl⟩
def KB (W : World) (a b : Nat) (d wd : Int) (v1 v2 u1 u2 : Value) : Prop := Bk W a (bcV d wd v1 v2) ∧ Bk W b (bcV d wd u1 u2)
theorem KB.keep {W W' : World} {a b : Nat} {d wd : Int} {v1 v2 u1 u2 : Value} (h : KB W a b d wd v1 v2 u1 u2) (hb : Below W.heap.size W W') : KB W' a b d wd v1 v2 u1 u2 := ⟨h.1.keep hb, h.2.keep hb⟩
theorem KB.drew {W : World} {a b : Nat} {d wd : Int} {v1 v2 u1 u2 : Value} (h : KB W a b d wd v1 v2 u1 u2) : KB W.drew a b d wd v1 v2 u1 u2 := h.keep (Below.refl _ _).drew
theorem KB.all {W : World} {a b : Nat} {d wd : Int} {v1 v2 u1 u2 : Value} (h : KB W a b d wd v1 v2 u1 u2) :
    W.cell? ⟨a, 0, none⟩ = some (.int .i64 d) ∧ W.cell? ⟨a, 1, none⟩ = some (.int .i64 wd) ∧ W.cell? ⟨a, 2, none⟩ = some v1 ∧ W.cell? ⟨a, 3, none⟩ = some v2 ∧ W.cell? ⟨b, 0, none⟩ = some (.int .i64 d) ∧ W.cell? ⟨b, 1, none⟩ = some (.int .i64 wd) ∧ W.cell? ⟨b, 2, none⟩ = some u1 ∧ W.cell? ⟨b, 3, none⟩ = some u2 :=
  ⟨h.1.c 0 _ rfl, h.1.c 1 _ rfl, h.1.c 2 _ rfl, h.1.c 3 _ rfl, h.2.c 0 _ rfl, h.2.c 1 _ rfl, h.2.c 2 _ rfl, h.2.c 3 _ rfl⟩
end Go.Proofs.Ytjmaapbodacggaa
