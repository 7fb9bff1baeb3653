/- Edges of bits, plain: sums of the runs before them. -/
import Derived.Test.YtjmaapbodacggaaRuns
namespace Go.Proofs.Ytjmaapbodacggaa
set_option linter.unusedVariables false
open Go Go.RowKit

/-- The edges among the first k bytes. -/
def edK (l : List UInt8) : Nat → List Int
  | 0 => []
  | k + 1 => if k = 0 ∨ l[k]? ≠ l[k - 1]? then edK l k ++ [(k : Int)] else edK l k
theorem edK_new {l : List UInt8} {k : Nat} (h : k = 0 ∨ l[k]? ≠ l[k - 1]?) : edK l (k + 1) = edK l k ++ [(k : Int)] := by rw [edK, if_pos h]
theorem edK_old {l : List UInt8} {k : Nat} (h : ¬ (k = 0 ∨ l[k]? ≠ l[k - 1]?)) : edK l (k + 1) = edK l k := by rw [edK, if_neg h]
theorem edK_len (l : List UInt8) : ∀ k, (edK l k).length ≤ k
  | 0 => by simp [edK]
  | k + 1 => by
    have := edK_len l k
    unfold edK
    split
    · simp; omega
    · omega
theorem edK_mem (l : List UInt8) : ∀ k, ∀ x ∈ edK l k, 0 ≤ x ∧ x < (k : Int)
  | 0 => by intro x hx; simp [edK] at hx
  | k + 1 => by
    intro x hx
    have ih := edK_mem l k
    unfold edK at hx
    split at hx
    · rcases List.mem_append.1 hx with h | h
      · have := ih x h; omega
      · simp at h; omega
    · have := ih x hx; omega
/-- The sum of the first i numbers. -/
def sumT (r : List Int) (i : Nat) : Int := (r.take i).foldl (· + ·) 0
theorem foldl_add (l : List Int) (a : Int) : l.foldl (· + ·) a = a + l.foldl (· + ·) 0 := by
  induction l generalizing a with
  | nil => simp
  | cons x l ih => simp only [List.foldl_cons]; rw [ih (a + x), ih (0 + x)]; omega
theorem sumT_zero (r : List Int) : sumT r 0 = 0 := by simp [sumT]
theorem sumT_succ (r : List Int) (i : Nat) (h : i < r.length) : sumT r (i + 1) = sumT r i + r[i] := by
  unfold sumT
  rw [List.take_succ_eq_append_getElem h, List.foldl_append]
  rfl
def psum (r : List Int) : List Int := (List.range r.length).map fun i => sumT r i
theorem psum_len (r : List Int) : (psum r).length = r.length := by simp [psum]
theorem psum_at (r : List Int) (i : Nat) (h : i < r.length) : (psum r)[i]'(by rw [psum_len]; exact h) = sumT r i := by simp [psum]
theorem psum_snoc (r : List Int) (x : Int) : psum (r ++ [x]) = psum r ++ [sumT r r.length] := by
  unfold psum
  rw [List.length_append, List.length_singleton, List.range_succ, List.map_append]
  congr 1
  · refine List.map_congr_left fun i hi => ?_
    have : i < r.length := List.mem_range.1 hi
    unfold sumT
    rw [List.take_append_of_le_length (by omega)]
  · show [sumT (r ++ [x]) r.length] = _
    unfold sumT
    rw [List.take_append_of_le_length (Nat.le_refl _)]
theorem sumT_snoc (r : List Int) (x : Int) : sumT (r ++ [x]) (r ++ [x]).length = sumT r r.length + x := by
  unfold sumT
  rw [List.take_length, List.take_length, List.foldl_append]
  rfl
theorem set_last' (l : List Int) (h : 0 < l.length) (x : Int) : l.set (l.length - 1) x = l.dropLast ++ [x] := by
  have hne : l ≠ [] := by intro e; subst e; simp at h
  conv => lhs; rw [← List.dropLast_concat_getLast hne]
  rw [List.set_append, if_neg (by simp)]
  simp
theorem edges_runs (l : List UInt8) : ∀ k, psum (runsK l k) = edK l k ∧ sumT (runsK l k) (runsK l k).length = (k : Int)
  | 0 => by simp [runsK, edK, psum, sumT]
  | k + 1 => by
    obtain ⟨h1, h2⟩ := edges_runs l k
    by_cases h : k = 0 ∨ l[k]? ≠ l[k - 1]?
    · rw [runsK_new l k h, edK_new h, psum_snoc, sumT_snoc, h1, h2]
      exact ⟨rfl, by omega⟩
    · have hk : 0 < k := by rcases Nat.eq_zero_or_pos k with e | e; exact absurd (.inl e) h; exact e
      have hp := runsK_pos l k hk
      have hne : runsK l k ≠ [] := by intro e; rw [e] at hp; simp at hp
      rw [runsK_old l k h, edK_old h, set_last' _ hp]
      have e2 : runsK l k = (runsK l k).dropLast ++ [(runsK l k).getLast hne] := (List.dropLast_concat_getLast hne).symm
      rw [e2, psum_snoc] at h1
      rw [e2, sumT_snoc] at h2
      have hl : (runsK l k).getD ((runsK l k).length - 1) 0 = (runsK l k).getLast hne := by
        rw [List.getD, List.getElem?_eq_getElem (by omega), List.getLast_eq_getElem]; rfl
      rw [psum_snoc, sumT_snoc, hl]
      exact ⟨h1, by omega⟩
def edV (l : List UInt8) (ok : Bool) : List Int := if ok then edK l l.length else []
theorem edV_len (l : List UInt8) (ok : Bool) : (edV l ok).length ≤ l.length := by
  unfold edV
  split
  · exact edK_len l _
  · simp
theorem sumT_bd (l : List UInt8) (k i : Nat) (h : i ≤ (runsK l k).length) : 0 ≤ sumT (runsK l k) i ∧ sumT (runsK l k) i ≤ k := by
  obtain ⟨h1, h2⟩ := edges_runs l k
  by_cases hi : i < (runsK l k).length
  · have : sumT (runsK l k) i ∈ psum (runsK l k) := by
      rw [← psum_at _ i hi]; exact List.getElem_mem ..
    rw [h1] at this
    have := edK_mem l k _ this
    omega
  · have : i = (runsK l k).length := by omega
    rw [this, h2]; omega
end Go.Proofs.Ytjmaapbodacggaa
