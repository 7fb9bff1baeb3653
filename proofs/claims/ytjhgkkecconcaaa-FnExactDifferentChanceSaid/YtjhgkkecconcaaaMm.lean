/- slices.Min and slices.Max over numbers that are read: the least and the greatest one; areNumbers, areWeights; the model's l05Weights. -/
import Derived.Test.YtjhgkkecconcaaaMlP
import Derived.Test.YtjhgkkecconcaaaRd
import Derived.Test.YtjhgkkecconcaaaBtw
import Derived.Test.YtjhgkkecconcaaaBtI
namespace Go.Proofs.Ytjhgkkecconcaaa
open Go Go.RowKit
set_option linter.unusedVariables false

def IsMin (l : List Int) (m : Int) : Prop := m ∈ l ∧ ∀ x ∈ l, m ≤ x
def IsMax (l : List Int) (m : Int) : Prop := m ∈ l ∧ ∀ x ∈ l, x ≤ m
theorem isMin_snoc {l : List Int} {m x : Int} (h : IsMin l m) : IsMin (l ++ [x]) (if x < m then x else m) := by
  by_cases e : x < m
  · rw [if_pos e]
    refine ⟨by simp, fun y hy => ?_⟩
    rcases List.mem_append.1 hy with h' | h'
    · have := h.2 y h'; omega
    · simp at h'; omega
  · rw [if_neg e]
    refine ⟨by simp [h.1], fun y hy => ?_⟩
    rcases List.mem_append.1 hy with h' | h'
    · exact h.2 y h'
    · simp at h'; omega
theorem isMax_snoc {l : List Int} {m x : Int} (h : IsMax l m) : IsMax (l ++ [x]) (if m < x then x else m) := by
  by_cases e : m < x
  · rw [if_pos e]
    refine ⟨by simp, fun y hy => ?_⟩
    rcases List.mem_append.1 hy with h' | h'
    · have := h.2 y h'; omega
    · simp at h'; omega
  · rw [if_neg e]
    refine ⟨by simp [h.1], fun y hy => ?_⟩
    rcases List.mem_append.1 hy with h' | h'
    · exact h.2 y h'
    · simp at h'; omega
theorem isMin_one (l : List Int) (h : 0 < l.length) : IsMin (l.take 1) l[0] := by
  cases l with
  | nil => simp at h
  | cons a t => exact ⟨by simp, by simp⟩
theorem isMax_one (l : List Int) (h : 0 < l.length) : IsMax (l.take 1) l[0] := by
  cases l with
  | nil => simp at h
  | cons a t => exact ⟨by simp, by simp⟩

theorem rd_sh {w : World} {v : Value} {l : List Int} (h : Rd w v l) : ∃ A c, v = .slice A l.length c := by
  obtain ⟨A, n, c, e, hn, -⟩ := h
  exact ⟨A, c, by rw [e, hn]⟩

end Go.Proofs.Ytjhgkkecconcaaa
