/- Plain: levels, their sums, longest equal parts, changes, signs. -/
import Derived.Test.YtjmaapbodacggaaPl
namespace Go.Proofs.Ytjmaapbodacggaa
open Go Go.RowKit
set_option linter.unusedVariables false

/-- At most 800 numbers -1, 0 and 1. -/
def lvB (l : List Int) : Bool := decide (l.length ≤ 800) && l.all fun x => decide (-1 ≤ x ∧ x ≤ 1)
theorem lvB_parts {l : List Int} (h : lvB l = true) : l.length ≤ 800 ∧ ∀ x ∈ l, -1 ≤ x ∧ x ≤ 1 := by
  unfold lvB at h
  obtain ⟨h1, h2⟩ := Bool.and_eq_true_iff.1 h
  rw [List.all_eq_true] at h2
  exact ⟨of_decide_eq_true h1, fun x hx => of_decide_eq_true (h2 x hx)⟩
theorem lvB_mk {l : List Int} (h1 : l.length ≤ 800) (h3 : ∀ x ∈ l, -1 ≤ x ∧ x ≤ 1) : lvB l = true := by
  unfold lvB
  rw [decide_eq_true h1, Bool.true_and, List.all_eq_true]
  exact fun x hx => decide_eq_true (h3 x hx)
theorem lvB_bad {l : List Int} {x : Int} (hx : x ∈ l) (h : ¬ (-1 ≤ x ∧ x ≤ 1)) : lvB l = false := by
  cases e : lvB l
  · rfl
  · exact absurd ((lvB_parts e).2 x hx) h
theorem lvB_len {l : List Int} (h : ¬ l.length ≤ 800) : lvB l = false := by
  cases e : lvB l
  · rfl
  · exact absurd (lvB_parts e).1 h
theorem getD_at {l : List Int} {k : Nat} (h : k < l.length) : l.getD k 0 = l[k] := by
  simp [List.getD, List.getElem?_eq_getElem h]
/-- The sum of the first k levels, the least and the greatest one so far. -/
def smA (l : List Int) : Nat → Int
  | 0 => 0
  | k + 1 => smA l k + l.getD k 0
def smLo (l : List Int) : Nat → Int
  | 0 => 0
  | k + 1 => min (smLo l k) (smA l (k + 1))
def smHi (l : List Int) : Nat → Int
  | 0 => 0
  | k + 1 => max (smHi l k) (smA l (k + 1))
theorem smA_bd {l : List Int} (h : ∀ x ∈ l, -1 ≤ x ∧ x ≤ 1) : ∀ k, k ≤ l.length → -(k : Int) ≤ smA l k ∧ smA l k ≤ k
  | 0, _ => by simp [smA]
  | k + 1, hk => by
    have h1 := smA_bd h k (by omega)
    have h4 := h (l[k]'(by omega)) (List.getElem_mem _)
    rw [smA, getD_at (by omega)]
    omega
theorem smLo_bd {l : List Int} (h : ∀ x ∈ l, -1 ≤ x ∧ x ≤ 1) : ∀ k, k ≤ l.length → -(k : Int) ≤ smLo l k ∧ smLo l k ≤ 0
  | 0, _ => by simp [smLo]
  | k + 1, hk => by
    have h1 := smLo_bd h k (by omega)
    have h2 := smA_bd h (k + 1) hk
    rw [smLo]
    omega
theorem smHi_bd {l : List Int} (h : ∀ x ∈ l, -1 ≤ x ∧ x ≤ 1) : ∀ k, k ≤ l.length → 0 ≤ smHi l k ∧ smHi l k ≤ k
  | 0, _ => by simp [smHi]
  | k + 1, hk => by
    have h1 := smHi_bd h k (by omega)
    have h2 := smA_bd h (k + 1) hk
    rw [smHi]
    omega
theorem smA_at {l : List Int} {k : Nat} (h : k < l.length) : smA l (k + 1) = smA l k + l[k] := by
  rw [smA, getD_at h]
def smOk (l : List Int) : Bool := lvB l
def smL (l : List Int) : Int := if lvB l then smLo l l.length else 0
def smH (l : List Int) : Int := if lvB l then smHi l l.length else 0
/-- The levels turned. -/
def ngL (l : List Int) : List Int := l.map fun x => -x
def ngV (l : List Int) : List Int := if lvB l then ngL l else []
theorem ngL_len (l : List Int) : (ngL l).length = l.length := by simp [ngL]
theorem ngL_at (l : List Int) (k : Nat) (h : k < (ngL l).length) : (ngL l)[k] = -(l[k]'(by simpa [ngL] using h)) := by simp [ngL]
theorem ngL_take {l : List Int} {k : Nat} (h : k < l.length) : (ngL l).take (k + 1) = (ngL l).take k ++ [-l[k]] := by
  rw [List.take_succ_eq_append_getElem (by rw [ngL_len]; exact h), ngL_at]
theorem ngV_len (l : List Int) : (ngV l).length ≤ 800 := by
  unfold ngV
  split
  · rename_i h; rw [ngL_len]; exact (lvB_parts h).1
  · simp
/-- The runs among the first k levels: those that have ended, and the last one. -/
def rnI (l : List Int) : Nat → List Int × Int
  | 0 => ([], 0)
  | k + 1 => if k = 0 then ([], 1) else if l.getD k 0 ≠ l.getD (k - 1) 0 then ((rnI l k).1 ++ [(rnI l k).2], 1) else ((rnI l k).1, (rnI l k).2 + 1)
/-- The greatest run among the first k levels. -/
def mxI (l : List Int) : Nat → Int
  | 0 => 0
  | k + 1 => max (mxI l k) (rnI l (k + 1)).2
def flK (l : List Int) (k : Nat) : List Int := if k = 0 then [] else (rnI l k).1 ++ [(rnI l k).2]
theorem rnI_bd (l : List Int) : ∀ k, 0 ≤ (rnI l k).2 ∧ (rnI l k).2 ≤ k ∧ (rnI l k).1.length ≤ k - 1
  | 0 => by simp [rnI]
  | k + 1 => by
    have := rnI_bd l k
    rw [rnI]
    split
    · simp; omega
    · split
      · simp; omega
      · simp; omega
theorem rnI_all (l : List Int) : ∀ k, ∀ x ∈ (rnI l k).1, 0 ≤ x ∧ x ≤ k
  | 0 => by simp [rnI]
  | k + 1 => by
    have h1 := rnI_all l k
    have h2 := rnI_bd l k
    intro x hx
    rw [rnI] at hx
    split at hx
    · simp at hx
    · split at hx
      · rcases List.mem_append.1 hx with h | h
        · have := h1 x h; omega
        · simp at h; omega
      · have := h1 x hx; omega
theorem mxI_bd (l : List Int) : ∀ k, 0 ≤ mxI l k ∧ mxI l k ≤ k
  | 0 => by simp [mxI]
  | k + 1 => by
    have h1 := mxI_bd l k
    have h2 := rnI_bd l (k + 1)
    rw [mxI]
    omega
theorem mxI_max (l : List Int) : ∀ k, 0 < k → (mxI l k ∈ flK l k) ∧ ∀ x ∈ flK l k, x ≤ mxI l k
  | 0, h => by omega
  | k + 1, _ => by
    by_cases hk : k = 0
    · subst hk
      simp [mxI, flK, rnI]; omega
    · obtain ⟨h1, h2⟩ := mxI_max l k (by omega)
      have hb := rnI_bd l k
      have hm := mxI_bd l k
      unfold flK at h1 h2 ⊢
      rw [if_neg hk] at h1 h2
      rw [if_neg (by omega), mxI, rnI, if_neg hk]
      by_cases hn : l.getD k 0 ≠ l.getD (k - 1) 0
      · rw [if_pos hn]
        dsimp only
        constructor
        · by_cases hh : mxI l k ≤ 1
          · rw [show max (mxI l k) 1 = 1 by omega]; simp
          · rw [show max (mxI l k) 1 = mxI l k by omega]; exact List.mem_append_left _ h1
        · intro x hx
          rcases List.mem_append.1 hx with h | h
          · have := h2 x h; omega
          · simp at h; subst h; omega
      · rw [if_neg hn]
        dsimp only
        constructor
        · by_cases hh : mxI l k ≤ (rnI l k).2 + 1
          · rw [show max (mxI l k) ((rnI l k).2 + 1) = (rnI l k).2 + 1 by omega]; simp
          · rw [show max (mxI l k) ((rnI l k).2 + 1) = mxI l k by omega]
            rcases List.mem_append.1 h1 with h | h
            · exact List.mem_append_left _ h
            · simp at h; omega
        · intro x hx
          rcases List.mem_append.1 hx with h | h
          · have := h2 x (List.mem_append_left _ h); omega
          · simp at h; subst h; omega
theorem flK_len (l : List Int) (k : Nat) : (flK l k).length ≤ k := by
  unfold flK
  have := rnI_bd l k
  split
  · simp
  · simp; omega
theorem flK_new (l : List Int) (k : Nat) (h : k = 0 ∨ l.getD k 0 ≠ l.getD (k - 1) 0) : flK l (k + 1) = flK l k ++ [1] := by
  unfold flK
  rw [if_neg (by omega), rnI]
  by_cases hk : k = 0
  · rw [if_pos hk, if_pos hk]
  · rw [if_neg hk, if_neg hk, if_pos (h.resolve_left hk)]
theorem flK_old (l : List Int) (k : Nat) (h : ¬ (k = 0 ∨ l.getD k 0 ≠ l.getD (k - 1) 0)) : flK l (k + 1) = (flK l k).set ((flK l k).length - 1) ((flK l k).getD ((flK l k).length - 1) 0 + 1) := by
  unfold flK
  have hk : ¬ k = 0 := fun e => h (.inl e)
  have he : ¬ l.getD k 0 ≠ l.getD (k - 1) 0 := fun e => h (.inr e)
  rw [if_neg (by omega), rnI, if_neg hk, if_neg hk, if_neg he]
  generalize (rnI l k).1 = a
  generalize (rnI l k).2 = b
  have e : (a ++ [b]).length - 1 = a.length := by simp
  rw [e]
  simp
theorem flK_pos (l : List Int) (k : Nat) (h : 0 < k) : 0 < (flK l k).length := by
  unfold flK; rw [if_neg (by omega)]; simp
theorem flK_bd (l : List Int) (k : Nat) : ∀ j, 0 ≤ (flK l k).getD j 0 ∧ (flK l k).getD j 0 ≤ k := by
  intro j
  by_cases hj : j < (flK l k).length
  · rw [getD_at hj]
    have hm := List.getElem_mem hj
    generalize (flK l k)[j] = x at *
    unfold flK at hm
    split at hm
    · simp at hm
    · rcases List.mem_append.1 hm with h | h
      · exact rnI_all l k x h
      · have := rnI_bd l k
        simp at h; omega
  · rw [List.getD_eq_getElem?_getD, List.getElem?_eq_none (by omega)]; simp
def fltV (l : List Int) : Int := if lvB l then mxI l l.length else 0
/-- The changes among the first k levels. -/
def chI (l : List Int) : Nat → Int
  | 0 => 0
  | k + 1 => if k = 0 then 0 else if l.getD k 0 ≠ l.getD (k - 1) 0 then chI l k + 1 else chI l k
theorem chI_bd (l : List Int) : ∀ k, 0 ≤ chI l k ∧ chI l k ≤ k
  | 0 => by simp [chI]
  | k + 1 => by
    have h1 := chI_bd l k
    rw [chI]
    split
    · omega
    · split <;> omega
def chnV (l : List Int) : Int := if lvB l then chI l l.length else 0
/-- The sign of a level. -/
def sgB (x : Int) : UInt8 := if x = -1 then 45 else if x = 0 then 48 else 43
def sgL (l : List Int) : List UInt8 := l.map sgB
def txV (l : List Int) : List UInt8 := if lvB l then sgL l else []
theorem sgL_len (l : List Int) : (sgL l).length = l.length := by simp [sgL]
theorem sgL_take {l : List Int} {k : Nat} (h : k < l.length) : (sgL l).take (k + 1) = (sgL l).take k ++ [sgB l[k]] := by
  rw [List.take_succ_eq_append_getElem (by rw [sgL_len]; exact h)]
  simp [sgL]
/-- The level of a sign, and whether a text is one of levels. -/
def lvN (c : UInt8) : Int := if c = 45 then -1 else if c = 48 then 0 else 1
def isS (c : UInt8) : Bool := c == 45 || c == 48 || c == 43
def rltB (l : List UInt8) : Bool := decide (l.length ≤ 800) && l.all isS
def rltV (l : List UInt8) : List Int := if rltB l then l.map lvN else []
theorem rltB_parts {l : List UInt8} (h : rltB l = true) : l.length ≤ 800 ∧ ∀ x ∈ l, isS x = true := by
  unfold rltB at h
  obtain ⟨h1, h2⟩ := Bool.and_eq_true_iff.1 h
  rw [List.all_eq_true] at h2
  exact ⟨of_decide_eq_true h1, h2⟩
theorem rltB_mk {l : List UInt8} (h1 : l.length ≤ 800) (h3 : ∀ x ∈ l, isS x = true) : rltB l = true := by
  unfold rltB
  rw [decide_eq_true h1, Bool.true_and, List.all_eq_true]
  exact h3
theorem rltB_bad {l : List UInt8} {x : UInt8} (hx : x ∈ l) (h : isS x = false) : rltB l = false := by
  cases e : rltB l
  · rfl
  · rw [(rltB_parts e).2 x hx] at h; cases h
theorem rltB_len {l : List UInt8} (h : ¬ l.length ≤ 800) : rltB l = false := by
  cases e : rltB l
  · rfl
  · exact absurd (rltB_parts e).1 h
theorem rltV_len (l : List UInt8) : (rltV l).length ≤ 800 := by
  unfold rltV
  split
  · rename_i h; simp; exact (rltB_parts h).1
  · simp
end Go.Proofs.Ytjmaapbodacggaa
