/- A graph that is an argument of a law, opened. -/
import Derived.Test.YtllkojakeoennabGr
import Derived.Lib.SmallJoins
namespace Go.Proofs.Ytllkojakeoennab
open Go Go.RowKit Go.ChangeShapes Go.WideShapes Go.Joins
set_option linter.unusedVariables false
theorem cellsSS : Try.prog.cellsOf 48 = 1 := by kernel_rfl
theorem cellsG : Try.prog.cellsOf 50 = 1 := by kernel_rfl
set_option maxRecDepth 100000 in
theorem graph_open {H : Type} {enc : TypeId × Value → H} {W : World} {r : Reach} {b0 : Nat} {v : Value} {d : DataW H} {p : List MemPlace} (hv : Value.okWide Try.prog W r b0 50 v) (h : DataW.Trod enc Try.prog W 0 (fun _ => true) true 50 v d p) :
    ∃ v0 g, v = .agg #[v0] ∧ RdG W v0 g ∧ ∀ l ∈ g, ∀ n ∈ l, (Lit.int .i64 n).wf = true := by
  obtain ⟨cs, rfl, hsz⟩ := okWide_struct Try.underlying50 hv
  rw [cellsG] at hsz
  obtain ⟨c0, rfl⟩ : ∃ c0, cs = #[c0] := by
    obtain ⟨l⟩ := cs
    match l, hsz with
    | [c0], _ => exact ⟨c0, rfl⟩
  obtain ⟨fuel, hf⟩ := h
  obtain ⟨y0, n, hx, hl, h0⟩ := trod_struct1 Try.underlying50 hf
  obtain ⟨g, hg1, hg2⟩ := rdg_open (W := W) (v := c0) (fuel := n) (x := y0) (by simpa [Value.cells, cellsSS] using h0)
  exact ⟨c0, g, rfl, hg1, hg2⟩
end Go.Proofs.Ytllkojakeoennab
