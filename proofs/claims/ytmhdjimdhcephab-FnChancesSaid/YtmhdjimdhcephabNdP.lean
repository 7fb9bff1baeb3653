/- Plain: lists of numbers within bounds; needs; when stations are asked. -/
import Derived.Test.YtmhdjimdhcephabPl
namespace Go.Proofs.Ytmhdjimdhcephab
open Go Go.RowKit
set_option linter.unusedVariables false

/-- 1 to c numbers from 0 to most. -/
def anB (c : Nat) (most : Int) (l : List Int) : Bool := decide (1 ≤ l.length) && (decide (l.length ≤ c) && l.all fun x => decide (0 ≤ x ∧ x ≤ most))
theorem anB_parts {c : Nat} {most : Int} {l : List Int} (h : anB c most l = true) : 1 ≤ l.length ∧ l.length ≤ c ∧ ∀ x ∈ l, 0 ≤ x ∧ x ≤ most := by
  unfold anB at h
  obtain ⟨h1, h2⟩ := Bool.and_eq_true_iff.1 h
  obtain ⟨h3, h4⟩ := Bool.and_eq_true_iff.1 h2
  rw [List.all_eq_true] at h4
  exact ⟨of_decide_eq_true h1, of_decide_eq_true h3, fun x hx => of_decide_eq_true (h4 x hx)⟩
theorem anB_mk {c : Nat} {most : Int} {l : List Int} (h1 : 1 ≤ l.length) (h2 : l.length ≤ c) (h3 : ∀ x ∈ l, 0 ≤ x ∧ x ≤ most) : anB c most l = true := by
  unfold anB
  rw [decide_eq_true h1, decide_eq_true h2, Bool.true_and, Bool.true_and, List.all_eq_true]
  exact fun x hx => decide_eq_true (h3 x hx)
theorem anB_bad {c : Nat} {most : Int} {l : List Int} {x : Int} (hx : x ∈ l) (h : ¬ (0 ≤ x ∧ x ≤ most)) : anB c most l = false := by
  cases e : anB c most l
  · rfl
  · exact absurd ((anB_parts e).2.2 x hx) h
theorem anB_len {c : Nat} {most : Int} {l : List Int} (h : ¬ (1 ≤ l.length ∧ l.length ≤ c)) : anB c most l = false := by
  cases e : anB c most l
  · rfl
  · exact absurd ⟨(anB_parts e).1, (anB_parts e).2.1⟩ h
theorem anB_min {c : Nat} {most m M : Int} {l : List Int} (h : 1 ≤ l.length ∧ l.length ≤ c) (hm : m ∈ l) (hl : ∀ x ∈ l, m ≤ x) (hM : M ∈ l) (hL : ∀ x ∈ l, x ≤ M) : anB c most l = (decide (0 ≤ m) && decide (M ≤ most)) := by
  by_cases h1 : 0 ≤ m
  · by_cases h2 : M ≤ most
    · rw [decide_eq_true h1, decide_eq_true h2, anB_mk h.1 h.2 (fun x hx => ⟨by have := hl x hx; omega, by have := hL x hx; omega⟩)]; rfl
    · rw [decide_eq_false h2, anB_bad hM (fun e => h2 e.2)]; simp
  · rw [decide_eq_false h1, anB_bad hm (fun e => h1 e.1)]; rfl
/-- Needs of stations. -/
def ndB (l : List Int) : Bool := anB 12 1000 l
/-- A number within bounds. -/
def rgB (lo hi n : Int) : Bool := decide (lo ≤ n ∧ n ≤ hi)
/-- The time at which station k is asked. -/
def tmA (l : List Int) (g : Int) : Nat → Int
  | 0 => 0
  | k + 1 => tmA l g k + (l.getD k 0 + g)
theorem tmA_bd {l : List Int} {g : Int} (h : ∀ x ∈ l, 0 ≤ x ∧ x ≤ 1000) (hg : 0 ≤ g ∧ g ≤ 1000) : ∀ k, k ≤ l.length → 0 ≤ tmA l g k ∧ tmA l g k ≤ 2000 * k
  | 0, _ => by simp [tmA]
  | k + 1, hk => by
    obtain ⟨h1, h2⟩ := tmA_bd h hg k (by omega)
    have h3 : l.getD k 0 = l[k]'(by omega) := by simp [List.getD, List.getElem?_eq_getElem (show k < l.length by omega)]
    have h4 := h (l[k]'(by omega)) (List.getElem_mem _)
    rw [tmA, h3]
    omega
theorem tmA_at {l : List Int} {g : Int} {k : Nat} (h : k < l.length) : tmA l g (k + 1) = tmA l g k + (l[k] + g) := by
  rw [tmA]; simp [List.getD, List.getElem?_eq_getElem h]
def tmL (l : List Int) (g : Int) (n : Nat) : List Int := (List.range n).map (tmA l g)
theorem tmL_len (l : List Int) (g : Int) (n : Nat) : (tmL l g n).length = n := by simp [tmL]
theorem tmL_succ (l : List Int) (g : Int) (n : Nat) : tmL l g (n + 1) = tmL l g n ++ [tmA l g n] := by simp [tmL, List.range_succ]
theorem tmL_at (l : List Int) (g : Int) (n k : Nat) (h : k < (tmL l g n).length) : (tmL l g n)[k] = tmA l g k := by simp [tmL]
def pcyB (l : List Int) (g : Int) : Bool := ndB l && rgB 0 1000 g
def pcyV (l : List Int) (g : Int) : List Int := if pcyB l g then tmL l g l.length else []
def pcyT (l : List Int) (g : Int) : Int := if pcyB l g then tmA l g l.length else 0
theorem pcy_no {l : List Int} {g : Int} (h : ndB l = false ∨ rgB 0 1000 g = false) : pcyB l g = false ∧ pcyV l g = [] ∧ pcyT l g = 0 := by
  have e : pcyB l g = false := by unfold pcyB; rcases h with h | h <;> rw [h] <;> simp
  exact ⟨e, by unfold pcyV; rw [e]; rfl, by unfold pcyT; rw [e]; rfl⟩
theorem pcy_yes {l : List Int} {g : Int} (h1 : ndB l = true) (h2 : rgB 0 1000 g = true) : pcyB l g = true ∧ pcyV l g = tmL l g l.length ∧ pcyT l g = tmA l g l.length := by
  have e : pcyB l g = true := by unfold pcyB; rw [h1, h2]; rfl
  exact ⟨e, by unfold pcyV; rw [e]; rfl, by unfold pcyT; rw [e]; rfl⟩
theorem pcyV_len (l : List Int) (g : Int) : (pcyV l g).length ≤ 12 := by
  unfold pcyV
  split
  · rename_i h
    unfold pcyB at h
    have := (anB_parts (Bool.and_eq_true_iff.1 h).1).2.1
    rw [tmL_len]; exact this
  · simp
end Go.Proofs.Ytmhdjimdhcephab
