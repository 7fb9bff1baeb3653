/- A list of fractions that is an argument of a law, opened. -/
import Derived.Test.YtnpigefbdadjfaaSfA
import Derived.Test.YtnpigefbdadjfaaRd
import Derived.Deep.SlicePairs
import Derived.Lib.SmallJoins
namespace Go.Proofs.Ytnpigefbdadjfaa
open Go Go.RowKit Go.ChangeShapes Go.WideShapes Go.Joins
set_option linter.unusedVariables false
theorem cellsFr : Try.prog.cellsOf 89 = 2 := by kernel_rfl
theorem cellsFi : Try.prog.cellsOf 2 = 1 := by kernel_rfl
set_option maxRecDepth 100000 in
theorem fracs_open {H : Type} {enc : TypeId × Value → H} {W : World} {fuel : Nat} {v : Value} {x : DataW H × List MemPlace} {s : Nat → Bool} (h : DataW.trod enc Try.prog W 0 s true fuel 53 [v] = some x) :
    ∃ l, RdF W v l ∧ l.length ≤ maxLen ∧ ∀ x ∈ l, -9223372036854775808 ≤ x.1 ∧ x.1 ≤ 9223372036854775807 := by
  rcases Go.Deep.open_slice_pairs Try.underlying53 Try.underlying89 cellsFr rfl rfl cellsFi cellsFi h with ⟨hcs, hx⟩ | ⟨a, len, cap, m, n, V0, V1, D0, D1, P0, P1, hcs, hb, hl, hm, hmm, hx, hcell⟩
  · simp at hcs
    exact ⟨[], ⟨none, 0, 0, hcs, rfl, fun h => by omega⟩, Nat.zero_le _, fun n hn => by simp at hn⟩
  · simp at hcs
    have hlm : len ≤ m := by rw [hmm]; split <;> omega
    have hint : ∀ i, i < m → ∃ y z : Int, V0 i = .int .i64 y ∧ V1 i = .int .i64 z ∧ (Lit.int .i64 y).wf = true := by
      intro i hi
      obtain ⟨-, -, h0, h1⟩ := hcell i hi
      obtain ⟨y, e0, hv0, w0⟩ := DataW.trod_int Try.underlying2 h0
      obtain ⟨z, e1, hv1, w1⟩ := DataW.trod_int Try.underlying2 h1
      simp at e0 e1
      exact ⟨y, z, by first | exact e0 | exact hv0, by first | exact e1 | exact hv1, w0⟩
    let f : Nat → Int × Int := fun i => ((match V0 i with | .int _ y => y | _ => 0), (match V1 i with | .int _ y => y | _ => 0))
    have hf : ∀ i, i < m → V0 i = .int .i64 (f i).1 ∧ V1 i = .int .i64 (f i).2 ∧ -9223372036854775808 ≤ (f i).1 ∧ (f i).1 ≤ 9223372036854775807 := by
      intro i hi
      obtain ⟨y, z, e0, e1, w0⟩ := hint i hi
      have e : f i = (y, z) := by show (_, _) = _; simp only [e0, e1]
      rw [e, e0, e1]
      refine ⟨rfl, rfl, ?_⟩
      exact i64_bdd w0
    refine ⟨(List.range len).map f, ⟨_, _, _, hcs, by simp, fun h0 => ?_⟩, by simp; omega, fun x hx => ?_⟩
    · obtain ⟨b, off, spot⟩ := a
      have c0 := (hcell 0 (by omega)).1
      have hspot : spot = none := by simpa [Addr.add] using World.cell?_spot c0
      subst hspot
      have hadd : ∀ i, (⟨b, off, none⟩ : Addr).add i = ⟨b, off + i, none⟩ := fun i => by unfold Addr.add; split <;> simp_all
      refine ⟨b, off, rfl, ?_, fun i hi => ?_⟩
      · rw [hadd] at c0
        exact World.block_lt_of_cell? _ _ c0
      · rw [List.length_map, List.length_range] at hi
        obtain ⟨h0, h1, -, -⟩ := hcell i (by omega)
        obtain ⟨e0, e1, -⟩ := hf i (by omega)
        rw [hadd] at h0 h1
        rw [List.getElem_map, List.getElem_range]
        exact ⟨h0.trans (by rw [e0]), by rw [Nat.add_assoc]; exact h1.trans (by rw [e1])⟩
    · obtain ⟨i, hi, rfl⟩ := List.mem_map.1 hx
      have hi := List.mem_range.1 hi
      exact (hf i (by omega)).2.2
end Go.Proofs.Ytnpigefbdadjfaa
