/- The model's UncobsBytes. -/
import Derived.Test.YtjmaapbodacggaaCos
import Derived.Test.YtjmaapbodacggaaSam
namespace Go.Proofs.Ytjmaapbodacggaa
open Go Go.RowKit
set_option linter.unusedVariables false

/-- What has been read of bytes without 0. -/
def UcR (l M : List Int) (i : Nat) : Prop := i ≤ l.length ∧ M.length ≤ i ∧ ∃ f, l.length - i < f ∧ unc l = (ucF f (l.drop i)).map (M ++ ·)
theorem UcR.start (l : List Int) : UcR l [] 0 := ⟨Nat.zero_le _, Nat.le_refl _, l.length + 1, by omega, by simp [unc]⟩
theorem UcR.fin {l M : List Int} {i : Nat} (h : UcR l M i) (hi : l.length ≤ i) : unc l = some M := by
  obtain ⟨_, _, f, hf, e⟩ := h
  obtain ⟨f', rfl⟩ : ∃ f', f = f' + 1 := ⟨f - 1, by omega⟩
  rw [e, List.drop_eq_nil_of_le hi]; simp [ucF]
theorem UcR.bad {l M t : List Int} {i : Nat} {y : Int} (h : UcR l M i) (hd : l.drop i = y :: t) (hb : y = 0 ∨ (t.length : Int) < y - 1) : unc l = none := by
  obtain ⟨_, _, f, hf, e⟩ := h
  obtain ⟨f', rfl⟩ : ∃ f', f = f' + 1 := ⟨f - 1, by omega⟩
  rw [e, hd, ucF, if_pos hb]; rfl
theorem UcR.good {l M t : List Int} {i m : Nat} (h : UcR l M i) (hd : l.drop i = ((m : Int) + 1) :: t) (hm : m ≤ t.length) :
    UcR l ((M ++ t.take m) ++ (if m + 1 ≤ 254 ∧ t.drop m ≠ [] then [0] else [])) (i + m + 1) := by
  obtain ⟨h1, h2, f, hf, e⟩ := h
  have hl : l.length - i = t.length + 1 := by rw [← List.length_drop, hd]; rfl
  obtain ⟨f', rfl⟩ : ∃ f', f = f' + 1 := ⟨f - 1, by omega⟩
  have hdd : l.drop (i + m + 1) = t.drop m := by
    have : l.drop (i + 1) = t := by
      have := congrArg (List.drop 1) hd
      rw [List.drop_drop] at this
      simpa using this
    rw [show i + m + 1 = (i + 1) + m from by omega, ← List.drop_drop, this]
  refine ⟨by omega, ?_, f', by omega, ?_⟩
  · simp only [List.length_append, List.length_take]
    split
    · simp; omega
    · simp; omega
  · rw [e, hd, ucF, if_neg (by omega), hdd]
    have e1 : ((m : Int) + 1 - 1).toNat = m := by omega
    have e2 : (if ((m : Int) + 1 ≤ 254 ∧ t.drop m ≠ []) then [(0 : Int)] else []) = (if (m + 1 ≤ 254 ∧ t.drop m ≠ []) then [0] else []) := by
      by_cases h : m + 1 ≤ 254 ∧ t.drop m ≠ []
      · rw [if_pos h, if_pos ⟨by omega, h.2⟩]
      · rw [if_neg h, if_neg (fun h' => h ⟨by omega, h'.2⟩)]
    rw [e1, e2]
    cases ucF f' (t.drop m) with
    | none => rfl
    | some x => simp
def uoOk (l : List Int) : Bool := byOk' 600 l && ucOk l
def uoV (l : List Int) : List Int := if uoOk l then (unc l).getD [] else []
theorem uoV_no {l : List Int} (h : uoOk l = false) : uoV l = [] := by unfold uoV; rw [h]; rfl
theorem uo_none {l : List Int} (h : unc l = none) : uoOk l = false ∧ uoV l = [] := by
  have e : uoOk l = false := by unfold uoOk ucOk; rw [h]; simp
  exact ⟨e, uoV_no e⟩
theorem uo_some {l M : List Int} (h : unc l = some M) (hb : byOk' 600 l = true) : uoOk l = (decide (M.length ≤ 300) && decide (cob M = l)) ∧ (uoOk l = true → uoV l = M) := by
  have e : uoOk l = (decide (M.length ≤ 300) && decide (cob M = l)) := by unfold uoOk ucOk; rw [h, hb]; rfl
  exact ⟨e, fun h1 => by unfold uoV; rw [h1, h]; rfl⟩
theorem uoV_len (l : List Int) : (uoV l).length ≤ 300 := by
  cases h : uoOk l
  · rw [uoV_no h]; simp
  · unfold uoV
    rw [h]
    unfold uoOk ucOk at h
    cases hu : unc l with
    | none => simp
    | some M =>
      rw [hu] at h
      simp only at h
      have := of_decide_eq_true (Bool.and_eq_true_iff.1 (Bool.and_eq_true_iff.1 h).2).1
      simpa using this

end Go.Proofs.Ytjmaapbodacggaa
