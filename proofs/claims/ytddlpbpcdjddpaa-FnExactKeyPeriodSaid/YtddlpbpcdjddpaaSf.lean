/- A scrambler that is an argument of a law, opened; what a law with a scrambler holds: its own argument, and a copy of it. -/
import Derived.Test.YtddlpbpcdjddpaaScd
import Derived.Lib.SmallJoins
import Derived.Deep.RegionHeld3
import Derived.Deep.DeepCutAuto
namespace Go.Proofs.Ytddlpbpcdjddpaa
open Go Go.RowKit Go.ChangeShapes Go.WideShapes Go.Joins
set_option linter.unusedVariables false
theorem cellsSc : Try.prog.cellsOf 24 = 2 := by kernel_rfl
set_option maxRecDepth 100000 in
theorem sc_open {H : Type} {enc : TypeId × Value → H} {W : World} {r : Reach} {b0 : Nat} {v : Value} {d : DataW H} {p : List MemPlace} (hv : Value.okWide Try.prog W r b0 24 v) (h : DataW.Trod enc Try.prog W 0 (fun _ => true) true 24 v d p) :
    ∃ (v0 : Value) (s0 : ByteArray) (l0 : List Int), v = .agg #[v0, .string s0] ∧ Rd W v0 l0 ∧ (∀ n ∈ l0, (Lit.int .i64 n).wf = true) ∧ s0.size ≤ maxLen := by
  obtain ⟨v0, v1, y0, y1, n, rfl, -, -, h0, h1⟩ := open_agg2 Try.underlying24 (by kernel_rfl) cellsSc hv h
  obtain ⟨l0, r0, k0⟩ := rd_open (v := v0) h0
  obtain ⟨s, e, -, hs⟩ := DataW.trod_string Try.underlying9 h1
  simp at e
  subst e
  exact ⟨v0, s, l0, rfl, r0, k0, hs⟩
def KS (W : World) (a b : Nat) (v u : Value) (s : ByteArray) : Prop := Bk W a (scV v s) ∧ Bk W b (scV u s)
theorem KS.keep {W W' : World} {a b : Nat} {v u : Value} {s : ByteArray} (h : KS W a b v u s) (hb : Below W.heap.size W W') : KS W' a b v u s := ⟨h.1.keep hb, h.2.keep hb⟩
theorem KS.drew {W : World} {a b : Nat} {v u : Value} {s : ByteArray} (h : KS W a b v u s) : KS W.drew a b v u s := h.keep (Below.refl _ _).drew
theorem KS.all {W : World} {a b : Nat} {v u : Value} {s : ByteArray} (h : KS W a b v u s) :
    W.cell? ⟨a, 0, none⟩ = some v ∧ W.cell? ⟨a, 1, none⟩ = some (.string s) ∧ W.cell? ⟨b, 0, none⟩ = some u ∧ W.cell? ⟨b, 1, none⟩ = some (.string s) :=
  ⟨h.1.c 0 _ rfl, h.1.c 1 _ rfl, h.2.c 0 _ rfl, h.2.c 1 _ rfl⟩
end Go.Proofs.Ytddlpbpcdjddpaa
