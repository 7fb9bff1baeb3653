/- A block code that is an argument of a law, opened. -/
import Derived.Test.YtjmaapbodacggaaRs
import Derived.Lib.SmallJoins
namespace Go.Proofs.Ytjmaapbodacggaa
open Go Go.RowKit Go.ChangeShapes Go.WideShapes Go.Joins
set_option linter.unusedVariables false
theorem cellsBC : Try.prog.cellsOf 32 = 4 := by kernel_rfl
set_option maxRecDepth 100000 in
theorem bc_open {H : Type} {enc : TypeId × Value → H} {W : World} {r : Reach} {b0 : Nat} {v : Value} {d : DataW H} {p : List MemPlace} (hv : Value.okWide Try.prog W r b0 32 v) (h : DataW.Trod enc Try.prog W 0 (fun _ => true) true 32 v d p) :
    ∃ (d0 e0 : Int) (v0 u0 : Value) (m0 p0 : List ByteArray), v = .agg #[.int .i64 d0, .int .i64 e0, v0, u0] ∧ RdS W v0 m0 ∧ RdS W u0 p0 ∧ (∀ s ∈ m0, s.size ≤ maxLen) ∧ ∀ s ∈ p0, s.size ≤ maxLen := by
  obtain ⟨v0, v1, v2, v3, y0, y1, y2, y3, n, rfl, -, -, h0, h1, h2, h3⟩ := open_agg4 Try.underlying32 (by kernel_rfl) cellsBC hv h
  obtain ⟨a0, e0, -, -⟩ := DataW.trod_int Try.underlying2 h0
  obtain ⟨a1, e1, -, -⟩ := DataW.trod_int Try.underlying2 h1
  simp at e0 e1
  subst e0 e1
  obtain ⟨l2, r2, s2⟩ := rds_open (v := v2) h2
  obtain ⟨l3, r3, s3⟩ := rds_open (v := v3) h3
  exact ⟨a0, a1, v2, v3, l2, l3, rfl, r2, r3, s2, s3⟩
end Go.Proofs.Ytjmaapbodacggaa
