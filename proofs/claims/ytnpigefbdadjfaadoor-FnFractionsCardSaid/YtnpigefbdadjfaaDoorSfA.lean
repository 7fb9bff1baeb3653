/- The model's question whether all of a list are fractions. -/
import Derived.Test.YtnpigefbdadjfaaDoorFrac
namespace Go.Proofs.YtnpigefbdadjfaaDoor
open Go Go.RowKit
set_option linter.unusedVariables false

/-- A list of fractions. -/
def RdF (w : World) (v : Value) (l : List (Int × Int)) : Prop :=
  ∃ (A : Option Addr) (n c : Nat), v = .slice A n c ∧ l.length = n ∧
    (0 < n → ∃ b o, A = some ⟨b, o, none⟩ ∧ b < w.heap.size ∧ ∀ i (h : i < l.length), w.cell? ⟨b, o + i * 2, none⟩ = some (.int .i64 l[i].1) ∧ w.cell? ⟨b, o + i * 2 + 1, none⟩ = some (.int .i64 l[i].2))
theorem RdF.keep {w w' : World} {v : Value} {l : List (Int × Int)} (h : RdF w v l) (hb : Below w.heap.size w w') : RdF w' v l := by
  obtain ⟨A, n, c, e, hn, h3⟩ := h
  refine ⟨A, n, c, e, hn, fun h0 => ?_⟩
  obtain ⟨b, o, e1, hlt, hc⟩ := h3 h0
  exact ⟨b, o, e1, Nat.lt_of_lt_of_le hlt hb.size, fun i h => ⟨(hb.cell (p := ⟨b, o + i * 2, none⟩) hlt).trans (hc i h).1, (hb.cell (p := ⟨b, o + i * 2 + 1, none⟩) hlt).trans (hc i h).2⟩⟩
def faB (l : List (Int × Int)) : Bool := l.all fun x => fIs x.1 x.2
theorem faB_no {l : List (Int × Int)} {k : Nat} (h : k < l.length) (hf : fIs l[k].1 l[k].2 = false) : faB l = false := by
  unfold faB
  rw [List.all_eq_false]
  exact ⟨l[k], List.getElem_mem h, by rw [hf]; decide⟩
theorem faB_yes {l : List (Int × Int)} (h : ∀ k (hk : k < l.length), fIs l[k].1 l[k].2 = true) : faB l = true := by
  unfold faB
  rw [List.all_eq_true]
  intro x hx
  obtain ⟨k, hk, rfl⟩ := List.getElem_of_mem hx
  exact h k hk
end Go.Proofs.YtnpigefbdadjfaaDoor
