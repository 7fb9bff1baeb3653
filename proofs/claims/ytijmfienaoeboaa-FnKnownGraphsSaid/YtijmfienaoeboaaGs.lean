/- Contracts of the model's functions on graphs: l02Is, l02State, l02Run; ValidGraph. -/
import Derived.Test.YtijmfienaoeboaaGr
import Derived.Test.YtijmfienaoeboaaBtw
import Derived.Deep.RegionHeld3
namespace Go.Proofs.Ytijmfienaoeboaa
open Go Go.RowKit
set_option linter.unusedVariables false

/-- A row of edges of a graph of n states. -/
def okRow (n : Nat) (r : List Int) : Bool := decide (r.length = 2 ∧ (-1 ≤ r.getD 0 0 ∧ r.getD 0 0 ≤ (n : Int) - 1) ∧ (-1 ≤ r.getD 1 0 ∧ r.getD 1 0 ≤ (n : Int) - 1) ∧ ¬ (r.getD 0 0 < 0 ∧ r.getD 1 0 < 0))
def isG (g : List (List Int)) : Bool := decide (1 ≤ g.length ∧ g.length ≤ 12) && g.all (okRow g.length)
theorem isG_bad (g : List (List Int)) (k : Nat) (h : k < g.length) (hb : okRow g.length g[k] = false) : isG g = false := by
  unfold isG
  have : g.all (okRow g.length) = false := by
    rw [List.all_eq_false]
    exact ⟨g[k], List.getElem_mem h, by rw [hb]; decide⟩
  rw [this]; simp
theorem isG_len (g : List (List Int)) (h : ¬ (1 ≤ g.length ∧ g.length ≤ 12)) : isG g = false := by
  unfold isG; rw [decide_eq_false h]; rfl
theorem isG_all (g : List (List Int)) (h : 1 ≤ g.length ∧ g.length ≤ 12) (ha : g.all (okRow g.length) = true) : isG g = true := by
  unfold isG; rw [decide_eq_true h, ha]; rfl
theorem all_snoc {g : List (List Int)} {k n : Nat} (h : k < g.length) (ha : (g.take k).all (okRow n) = true) (hr : okRow n g[k] = true) : (g.take (k + 1)).all (okRow n) = true := by
  rw [List.take_succ_eq_append_getElem h, List.all_append, ha, Bool.true_and]
  simp [hr]
/-- A slice of two numbers. -/
theorem rd_two {w : World} {v : Value} {l : List Int} (h : Rd w v l) (hl : l.length = 2) : ∃ b o c, v = .slice (some ⟨b, o, none⟩) 2 c ∧ b < w.heap.size ∧ w.cell? ⟨b, o, none⟩ = some (.int .i64 (l.getD 0 0)) ∧ w.cell? ⟨b, o + 1, none⟩ = some (.int .i64 (l.getD 1 0)) := by
  obtain ⟨A, n, c, rfl, hn, -, -, r⟩ := h
  obtain rfl : n = 2 := by omega
  obtain ⟨b, o, rfl, hlt, hc⟩ := r (by omega)
  refine ⟨b, o, c, rfl, hlt, ?_, ?_⟩
  · have := hc 0 (by omega); simpa [List.getD, List.getElem?_eq_getElem (show 0 < l.length by omega)] using this
  · have := hc 1 (by omega); simpa [List.getD, List.getElem?_eq_getElem (show 1 < l.length by omega)] using this
theorem rd_any {w : World} {v : Value} {l : List Int} (h : Rd w v l) : ∃ A c, v = .slice A l.length c := by
  obtain ⟨A, n, c, rfl, hn, -⟩ := h
  exact ⟨A, c, by rw [hn]⟩

end Go.Proofs.Ytijmfienaoeboaa
