/- Plain facts on taps and scramblers, without the program. -/
import Derived.Test.YtddlpbpcdjddpaaBits
import Derived.Test.YtddlpbpcdjddpaaEsP
namespace Go.Proofs.Ytddlpbpcdjddpaa
set_option linter.unusedVariables false
open Go Go.RowKit

/-- Taps lie between 1 and 16. -/
def tpR (l : List Int) : Bool := l.all fun n => decide (1 ≤ n ∧ n ≤ 16)
theorem tpR_at {l : List Int} (h : tpR l = true) (k : Nat) (hk : k < l.length) : 1 ≤ l[k] ∧ l[k] ≤ 16 := by
  have := List.all_eq_true.1 h l[k] (List.getElem_mem hk)
  exact of_decide_eq_true this
theorem tpR_bad {l : List Int} (k : Nat) (hk : k < l.length) (h : ¬ (1 ≤ l[k] ∧ l[k] ≤ 16)) : tpR l = false := by
  cases e : tpR l
  · rfl
  · exact absurd (tpR_at e k hk) h
theorem tpR_upto {l : List Int} (h : ∀ k (hk : k < l.length), 1 ≤ l[k] ∧ l[k] ≤ 16) : tpR l = true := by
  unfold tpR
  rw [List.all_eq_true]
  intro x hx
  obtain ⟨k, hk, rfl⟩ := List.getElem_of_mem hx
  exact decide_eq_true (h k hk)
theorem inc_far {l : List Int} (h : inc l = true) : ∀ (d i : Nat) (hj : i + d < l.length), l[i]'(by omega) + (d : Int) ≤ l[i + d]
  | 0, i, hj => by simp
  | d + 1, i, hj => by
    have h1 := inc_far h d i (by omega)
    have h2 := inc_at h (i + (d + 1)) hj (by omega)
    simp only [show i + (d + 1) - 1 = i + d from by omega] at h2
    omega
/-- The greatest tap. -/
def wid (l : List Int) : Int := l.getD (l.length - 1) 0
theorem wid_at {l : List Int} (h : 0 < l.length) : wid l = l[l.length - 1]'(by omega) := by
  unfold wid
  rw [List.getD, List.getElem?_eq_getElem (by omega)]; rfl
/-- Whether numbers are taps. -/
def tpOk (l : List Int) : Bool := decide (0 < l.length) && (inc l && tpR l)
theorem tpOk_parts {l : List Int} (h : tpOk l = true) : 0 < l.length ∧ inc l = true ∧ tpR l = true := by
  unfold tpOk at h
  rw [Bool.and_eq_true, Bool.and_eq_true] at h
  exact ⟨of_decide_eq_true h.1, h.2⟩
theorem tp_len {l : List Int} (h : inc l = true) (h2 : tpR l = true) : l.length ≤ 16 := by
  rcases Nat.eq_zero_or_pos l.length with h0 | h0
  · omega
  · have a := inc_far h (l.length - 1) 0 (by omega)
    have b := tpR_at h2 0 h0
    have c := tpR_at h2 (0 + (l.length - 1)) (by omega)
    omega
theorem tpOk_wid {l : List Int} (h : tpOk l = true) : 1 ≤ wid l ∧ wid l ≤ 16 := by
  obtain ⟨h0, h1, h2⟩ := tpOk_parts h
  rw [wid_at h0]
  exact tpR_at h2 _ _
theorem tpOk_le {l : List Int} (h : tpOk l = true) (k : Nat) (hk : k < l.length) : 1 ≤ l[k] ∧ l[k] ≤ wid l := by
  obtain ⟨h0, h1, h2⟩ := tpOk_parts h
  rw [wid_at h0]
  have a := tpR_at h2 k hk
  have b := inc_far h1 (l.length - 1 - k) k (by omega)
  simp only [show k + (l.length - 1 - k) = l.length - 1 from by omega] at b
  omega
/-- What the model asks. -/
theorem tp_model (l : List Int) : tpOk l = (decide (1 ≤ (l.length : Int) ∧ (l.length : Int) ≤ 16) && (inc l && tpR l)) := by
  unfold tpOk
  cases e : inc l && tpR l
  · simp
  · rw [Bool.and_eq_true] at e
    have := tp_len e.1 e.2
    by_cases h0 : 0 < l.length
    · rw [decide_eq_true h0, decide_eq_true (by omega)]
    · rw [decide_eq_false h0, decide_eq_false (by omega)]
/-- What the program asks. -/
theorem tp_prog {l : List Int} (h0 : 0 < l.length) (h1 : inc l = true) : tpR l = (decide ((1 : Int) ≤ l[0]) && decide (wid l ≤ 16)) := by
  rw [wid_at h0]
  by_cases a : (1 : Int) ≤ l[0]
  · by_cases b : l[l.length - 1]'(by omega) ≤ 16
    · rw [decide_eq_true a, decide_eq_true b]
      refine tpR_upto fun k hk => ?_
      have c := inc_far h1 k 0 (by omega)
      have d := inc_far h1 (l.length - 1 - k) k (by omega)
      simp only [show k + (l.length - 1 - k) = l.length - 1 from by omega] at d
      simp only [Nat.zero_add] at c
      omega
    · rw [decide_eq_false b, Bool.and_false]
      exact tpR_bad (l.length - 1) (by omega) (fun e => b e.2)
  · rw [decide_eq_false a, Bool.false_and]
    exact tpR_bad 0 h0 (fun e => a e.1)
/-- Whether a scrambler is valid. -/
def scOk (l : List Int) (s : List UInt8) : Bool := tpOk l && (isB s && decide ((s.length : Int) = wid l))
theorem scOk_parts {l : List Int} {s : List UInt8} (h : scOk l s = true) : tpOk l = true ∧ isB s = true ∧ (s.length : Int) = wid l := by
  unfold scOk at h
  rw [Bool.and_eq_true, Bool.and_eq_true] at h
  exact ⟨h.1, h.2.1, of_decide_eq_true h.2.2⟩
/-- What a law counts of a scrambler. -/
def szSc (n k : Nat) : Int := if 1048576 - (n : Int) < 0 then -1 else if 1048576 - (n : Int) - (k : Int) < 0 then -1 else 1048576 - (n : Int) - (k : Int)
theorem szSc_ok {n k : Nat} (h : ¬ szSc n k < 0) : n ≤ 1048576 ∧ k ≤ 1048576 := by
  unfold szSc at h
  split at h
  · omega
  · split at h <;> omega
end Go.Proofs.Ytddlpbpcdjddpaa
