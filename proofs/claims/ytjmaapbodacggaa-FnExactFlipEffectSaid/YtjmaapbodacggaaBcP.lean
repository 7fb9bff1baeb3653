/- Which block codes are valid: plain facts. -/
import Derived.Test.YtjmaapbodacggaaDis
import Derived.Test.YtjmaapbodacggaaWlP
namespace Go.Proofs.Ytjmaapbodacggaa
open Go Go.RowKit
set_option linter.unusedVariables false

/-- A word of a width with the disparity 0 or another one. -/
def wordOk (wd disp : Int) (s : ByteArray) : Bool := isB s.data.toList && (decide ((s.size : Int) = wd) && (decide (disL s.data.toList = 0) || decide (disL s.data.toList = disp)))
/-- Different such words. -/
def wordsOk (wd disp : Int) (ws : List ByteArray) : Bool := ws.all (wordOk wd disp) && decide ws.Nodup
theorem wordsOk_nil (wd disp : Int) : wordsOk wd disp [] = true := by simp [wordsOk]
theorem wordsOk_snoc (wd disp : Int) (ws : List ByteArray) (x : ByteArray) : wordsOk wd disp (ws ++ [x]) = (wordsOk wd disp ws && (wordOk wd disp x && !inW ws x)) := by
  unfold wordsOk
  have e : decide ((ws ++ [x]).Nodup) = (decide ws.Nodup && !inW ws x) := by
    rw [Bool.eq_iff_iff, decide_eq_true_iff, nodup_snoc]
    by_cases h : x ∈ ws
    · rw [inW_t h]; simp [h]
    · rw [inW_f h]; simp [h]
  rw [e, List.all_append]
  simp only [List.all_cons, List.all_nil, Bool.and_true]
  generalize ws.all (wordOk wd disp) = A
  generalize wordOk wd disp x = B
  generalize decide ws.Nodup = C
  generalize inW ws x = D
  cases A <;> cases B <;> cases C <;> cases D <;> rfl
theorem wordsOk_take (wd disp : Int) (ws : List ByteArray) (k : Nat) (h : wordsOk wd disp ws = true) : wordsOk wd disp (ws.take k) = true := by
  unfold wordsOk at h ⊢
  obtain ⟨h1, h2⟩ := Bool.and_eq_true_iff.1 h
  rw [Bool.and_eq_true_iff]
  refine ⟨?_, decide_eq_true ((of_decide_eq_true h2).sublist (List.take_sublist _ _))⟩
  rw [List.all_eq_true] at h1 ⊢
  exact fun x hx => h1 x (List.mem_of_mem_take hx)
theorem wordsOk_take_succ (wd disp : Int) (ws : List ByteArray) (k : Nat) (h : k < ws.length) : wordsOk wd disp (ws.take (k + 1)) = (wordsOk wd disp (ws.take k) && (wordOk wd disp ws[k] && !inW (ws.take k) ws[k])) := by
  rw [List.take_succ_eq_append_getElem h, wordsOk_snoc]
theorem wordsOk_bad (wd disp : Int) (ws : List ByteArray) (k : Nat) (h : k < ws.length) (hb : (wordOk wd disp ws[k] && !inW (ws.take k) ws[k]) = false) : wordsOk wd disp ws = false := by
  cases e : wordsOk wd disp ws
  · rfl
  · have := wordsOk_take wd disp ws (k + 1) e
    rw [wordsOk_take_succ wd disp ws k h, hb] at this
    simp at this
theorem wordOk_parts {wd disp : Int} {s : ByteArray} (h : wordOk wd disp s = true) : isB s.data.toList = true ∧ (s.size : Int) = wd ∧ (disL s.data.toList = 0 ∨ disL s.data.toList = disp) := by
  unfold wordOk at h
  obtain ⟨h1, h2⟩ := Bool.and_eq_true_iff.1 h
  obtain ⟨h3, h4⟩ := Bool.and_eq_true_iff.1 h2
  refine ⟨h1, of_decide_eq_true h3, ?_⟩
  rcases Bool.or_eq_true_iff.1 h4 with h | h
  · exact .inl (of_decide_eq_true h)
  · exact .inr (of_decide_eq_true h)
theorem wordsOk_parts {wd disp : Int} {ws : List ByteArray} (h : wordsOk wd disp ws = true) : ws.Nodup ∧ ∀ s ∈ ws, wordOk wd disp s = true := by
  unfold wordsOk at h
  obtain ⟨h1, h2⟩ := Bool.and_eq_true_iff.1 h
  rw [List.all_eq_true] at h1
  exact ⟨of_decide_eq_true h2, h1⟩

/-- Words of one list stand in another one nowhere, or at their own index. -/
def crossB (p : List ByteArray) : List ByteArray → Nat → Bool
  | [], _ => true
  | x :: xs, i => (decide (fnd p x 0 = -1) || decide (fnd p x 0 = (i : Int))) && crossB p xs (i + 1)
theorem crossB_drop (p m : List ByteArray) (k : Nat) (h : k < m.length) : crossB p (m.drop k) k = ((decide (fnd p m[k] 0 = -1) || decide (fnd p m[k] 0 = (k : Int))) && crossB p (m.drop (k + 1)) (k + 1)) := by
  rw [List.drop_eq_getElem_cons h, crossB]

/-- Which block codes are valid. -/
def szOk (d wd : Int) : Bool := decide ((1 ≤ d ∧ d ≤ 6) ∧ (2 ≤ wd ∧ wd ≤ 12) ∧ wd % 2 = 0)
def bcOk (d wd : Int) (m p : List ByteArray) : Bool :=
  szOk d wd && (decide (m.length = 2 ^ d.toNat) && (decide (p.length = 2 ^ d.toNat) && (wordsOk wd 2 m && (wordsOk wd (-2) p && crossB p m 0))))
theorem bcOk_f1' {d wd : Int} (m p : List ByteArray) (h : szOk d wd = false) : bcOk d wd m p = false := by unfold bcOk; rw [h]; rfl
end Go.Proofs.Ytjmaapbodacggaa
