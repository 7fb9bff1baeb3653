/- A console that is an argument of a law, opened. -/
import Derived.Test.YtnpigefbdadjfaaRs
import Derived.Lib.SmallJoins
namespace Go.Proofs.Ytnpigefbdadjfaa
open Go Go.RowKit Go.ChangeShapes Go.WideShapes Go.Joins
set_option linter.unusedVariables false
theorem cellsCn : Try.prog.cellsOf 46 = 2 := by kernel_rfl
set_option maxRecDepth 100000 in
theorem cn_open {H : Type} {enc : TypeId × Value → H} {W : World} {r : Reach} {b0 : Nat} {v : Value} {d : DataW H} {p : List MemPlace} (hv : Value.okWide Try.prog W r b0 46 v) (h : DataW.Trod enc Try.prog W 0 (fun _ => true) true 46 v d p) :
    ∃ (v0 u0 : Value) (m0 p0 : List ByteArray), v = .agg #[v0, u0] ∧ RdS W v0 m0 ∧ RdS W u0 p0 ∧ (∀ s ∈ m0, s.size ≤ maxLen) ∧ ∀ s ∈ p0, s.size ≤ maxLen := by
  obtain ⟨v2, v3, y2, y3, n, rfl, -, -, h2, h3⟩ := open_agg2 Try.underlying46 (by kernel_rfl) cellsCn hv h
  obtain ⟨l2, r2, s2⟩ := rds_open (v := v2) h2
  obtain ⟨l3, r3, s3⟩ := rds_open (v := v3) h3
  exact ⟨v2, v3, l2, l3, rfl, r2, r3, s2, s3⟩
end Go.Proofs.Ytnpigefbdadjfaa
