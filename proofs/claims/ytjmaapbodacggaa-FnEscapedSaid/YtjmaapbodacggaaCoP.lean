/- Plain facts on bytes without 0, without the program. -/
import Derived.Test.YtjmaapbodacggaaPl
namespace Go.Proofs.Ytjmaapbodacggaa
set_option linter.unusedVariables false
open Go Go.RowKit

/-- How many numbers other than 0 come first. -/
def nzs : List Int → Nat
  | [] => 0
  | x :: l => if x = 0 then 0 else nzs l + 1
theorem nzs_le : ∀ l : List Int, nzs l ≤ l.length
  | [] => Nat.le_refl _
  | x :: l => by have := nzs_le l; rw [nzs]; split <;> simp <;> omega
theorem nzs_before : ∀ (l : List Int) (k : Nat) (h : k < nzs l), l[k]'(Nat.lt_of_lt_of_le h (nzs_le l)) ≠ 0
  | [], k, h => by simp [nzs] at h
  | x :: l, k, h => by
    have h0 : x ≠ 0 := by intro e; subst e; simp [nzs] at h
    rw [nzs, if_neg h0] at h
    cases k with
    | zero => exact h0
    | succ k => exact nzs_before l k (by omega)
theorem nzs_at : ∀ (l : List Int) (h : nzs l < l.length), l[nzs l] = 0
  | [], h => by simp at h
  | x :: l, h => by
    by_cases h0 : x = 0
    · subst h0; simp [nzs]
    · have := nzs_at l (by rw [nzs, if_neg h0] at h; simp at h; exact h)
      simp only [nzs, if_neg h0, List.getElem_cons_succ]; exact this
/-- The block that comes first: how many numbers other than 0 it has. -/
def lead (l : List Int) : Nat := min (nzs l) 254
theorem lead_le (l : List Int) : lead l ≤ l.length := Nat.le_trans (Nat.min_le_left _ _) (nzs_le l)
theorem lead_most (l : List Int) : lead l ≤ 254 := Nat.min_le_right _ _
/-- The model counts up. -/
theorem lead_of (l : List Int) (k : Nat) (h1 : ∀ j (h : j < k) (hl : j < l.length), l[j] ≠ 0) (h2 : k ≤ 254) (hk : k ≤ l.length) (h3 : ∀ h : k < l.length, l[k] ≠ 0 → k = 254) : lead l = k := by
  have hge : k ≤ nzs l := by
    rcases Nat.lt_or_ge (nzs l) k with h | h
    · have h' : nzs l < l.length := by omega
      exact absurd (nzs_at l h') (h1 _ h h')
    · exact h
  unfold lead
  by_cases e : k = 254
  · omega
  · have : nzs l = k := by
      rcases Nat.lt_or_ge k (nzs l) with h | h
      · exact absurd (h3 (Nat.lt_of_lt_of_le h (nzs_le l)) (nzs_before l k h)) e
      · omega
    omega
/-- The bytes without 0 of what is left; fuel: more than the bytes that are left. -/
def coF : Nat → List Int → List Int
  | 0, _ => []
  | f + 1, l => ((lead l + 1 : Nat) : Int) :: (l.take (lead l) ++ (if lead l = 254 then (if l.length = 254 then [] else coF f (l.drop 254)) else if l.length = lead l then [] else coF f (l.drop (lead l + 1))))
def cob (l : List Int) : List Int := coF (l.length + 1) l
theorem coF_succ (f : Nat) (l : List Int) (n : Nat) (hn : lead l = n) : coF (f + 1) l = [((n + 1 : Nat) : Int)] ++ l.take n ++ (if n = 254 then (if l.length = 254 then [] else coF f (l.drop 254)) else if l.length = n then [] else coF f (l.drop (n + 1))) := by
  rw [coF, hn]; simp
theorem coF_nz : ∀ (f : Nat) (l : List Int), ∀ x ∈ coF f l, x ≠ 0
  | 0, l, x, h => by simp [coF] at h
  | f + 1, l, x, h => by
    rw [coF] at h
    rcases List.mem_cons.1 h with rfl | h
    · omega
    · rcases List.mem_append.1 h with h | h
      · obtain ⟨k, hk, rfl⟩ := List.getElem_of_mem h
        rw [List.getElem_take]
        exact nzs_before l k (by simp at hk; have := Nat.min_le_left (nzs l) 254; unfold lead at hk; omega)
      · split at h
        · split at h
          · simp at h
          · exact coF_nz f _ x h
        · split at h
          · simp at h
          · exact coF_nz f _ x h
theorem coF_len : ∀ (f : Nat) (l : List Int), (coF f l).length ≤ l.length + f
  | 0, l => by simp [coF]
  | f + 1, l => by
    have h1 := lead_le l
    rw [coF]
    simp only [List.length_cons, List.length_append, List.length_take]
    split
    · split
      · simp; omega
      · have := coF_len f (l.drop 254)
        rw [List.length_drop] at this; omega
    · split
      · simp; omega
      · have := coF_len f (l.drop (lead l + 1))
        rw [List.length_drop] at this; omega
theorem cob_len (l : List Int) : (cob l).length ≤ 2 * l.length + 1 := by have := coF_len (l.length + 1) l; unfold cob; omega

/-- What bytes without 0 are made from; fuel: more than the bytes that are left. -/
def ucF : Nat → List Int → Option (List Int)
  | 0, _ => none
  | _ + 1, [] => some []
  | f + 1, n :: l => if n = 0 ∨ (l.length : Int) < n - 1 then none else (ucF f (l.drop (n - 1).toNat)).map fun t => l.take (n - 1).toNat ++ ((if n ≤ 254 ∧ (l.drop (n - 1).toNat) ≠ [] then [0] else []) ++ t)
def unc (l : List Int) : Option (List Int) := ucF (l.length + 1) l
/-- Bytes are without 0 as others make them. -/
def ucOk (l : List Int) : Bool := match unc l with | none => false | some t => decide (t.length ≤ 300) && decide (cob t = l)
def ucV (l : List Int) : List Int := if ucOk l then (unc l).getD [] else []
theorem ucOk_zero (l : List Int) (h : l.contains 0 = true) : ucOk l = false := by
  unfold ucOk
  cases hu : unc l with
  | none => rfl
  | some t =>
    simp only
    rw [Bool.and_eq_false_iff]
    refine .inr (decide_eq_false fun e => ?_)
    have hm : (0 : Int) ∈ l := by simpa using h
    rw [← e] at hm
    exact coF_nz _ _ _ hm rfl
end Go.Proofs.Ytjmaapbodacggaa
