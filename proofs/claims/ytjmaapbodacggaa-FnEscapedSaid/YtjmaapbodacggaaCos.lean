/- The model's bytes without 0: l04Cobs, CobsBytes. -/
import Derived.Test.YtjmaapbodacggaaWin
import Derived.Test.YtjmaapbodacggaaCoP
namespace Go.Proofs.Ytjmaapbodacggaa
open Go Go.RowKit
set_option linter.unusedVariables false

theorem rd_at2 {w w' : World} {A : Option Addr} {n c : Nat} {l : List Int} (h : Rd w (.slice A n c) l) (k : Nat) (hk : k < n) : ∃ b o, A = some ⟨b, o, none⟩ ∧ ∃ hl : k < l.length, w.cell? ⟨b, o + k, none⟩ = some (.int .i64 l[k]) := by
  obtain ⟨A', n', c', e', hn', -, -, r⟩ := h
  injection e' with e1 e2 e3
  subst e1; subst e2; subst e3
  obtain ⟨b, o, e, -, hc⟩ := r (by omega)
  exact ⟨b, o, e, by omega, hc k (by omega)⟩
/-- How far the cutting has come. -/
def CoR (l M : List Int) (f0 : Nat) : Prop := (f0 ≤ l.length ∧ ∃ f, l.length - f0 < f ∧ cob l = M ++ coF f (l.drop f0)) ∨ (f0 = l.length + 1 ∧ cob l = M)
theorem CoR.start (l : List Int) : CoR l [] 0 := .inl ⟨Nat.zero_le _, l.length + 1, by omega, rfl⟩
theorem CoR.len {l M : List Int} {f0 : Nat} (h : CoR l M f0) : M.length ≤ 2 * l.length + 1 := by
  have hc := cob_len l
  rcases h with ⟨_, f, _, e⟩ | ⟨_, e⟩
  · rw [e, List.length_append] at hc; omega
  · rw [e] at hc; exact hc
theorem CoR.fin {l M : List Int} {f0 : Nat} (h : CoR l M f0) (hf : l.length < f0) : cob l = M := by
  rcases h with ⟨h1, _⟩ | ⟨_, e⟩
  · omega
  · exact e
theorem CoR.step {l M : List Int} {f0 : Nat} (h : CoR l M f0) (hf : f0 ≤ l.length) (m : Nat) (hm : lead (l.drop f0) = m) :
    (m = 254 → f0 + 254 = l.length → cob l = (M ++ [((m : Int) + 1)]) ++ (l.drop f0).take m) ∧
    (m = 254 → f0 + 254 ≠ l.length → CoR l ((M ++ [((m : Int) + 1)]) ++ (l.drop f0).take m) (f0 + 254)) ∧
    (m ≠ 254 → CoR l ((M ++ [((m : Int) + 1)]) ++ (l.drop f0).take m) (f0 + m + 1)) := by
  have hle : m ≤ l.length - f0 := by have := lead_le (l.drop f0); rw [List.length_drop] at this; omega
  rcases h with ⟨_, f, hff, e⟩ | ⟨h', _⟩
  rotate_left
  · omega
  obtain ⟨f', rfl⟩ : ∃ f', f = f' + 1 := ⟨f - 1, by omega⟩
  rw [coF_succ f' _ m hm, List.length_drop] at e
  refine ⟨fun h1 h2 => ?_, fun h1 h2 => ?_, fun h1 => ?_⟩
  · rw [e, if_pos h1, if_pos (by omega)]; simp
  · refine .inl ⟨by omega, f', by omega, ?_⟩
    rw [e, if_pos h1, if_neg (by omega), List.drop_drop]; simp
  · rw [if_neg h1] at e
    by_cases h2 : l.length - f0 = m
    · rw [if_pos h2] at e
      exact .inr ⟨by omega, by rw [e]; simp⟩
    · rw [if_neg h2, List.drop_drop] at e
      refine .inl ⟨by omega, f', by omega, ?_⟩
      rw [e, Nat.add_assoc]; simp
theorem lead_at {l : List Int} {f0 k : Nat} (h1 : ∀ j (hj : j < l.length), f0 ≤ j → j < f0 + k → l[j] ≠ 0) (h2 : k ≤ 254) (h3 : f0 + k ≤ l.length) (h4 : ∀ hj : f0 + k < l.length, l[f0 + k] ≠ 0 → k = 254) : lead (l.drop f0) = k := by
  refine lead_of _ k (fun j hj hl => ?_) h2 (by rw [List.length_drop]; omega) (fun hl h => ?_)
  · rw [List.getElem_drop]
    exact h1 _ _ (by omega) (by omega)
  · rw [List.getElem_drop] at h
    rw [List.length_drop] at hl
    exact h4 (by omega) h

def cbOk (l : List Int) : Bool := byOk' 300 l
def cbV (l : List Int) : List Int := if cbOk l then cob l else []
theorem cbV_no {l : List Int} (h : cbOk l = false) : cbV l = [] := by unfold cbV; rw [h]; rfl
theorem cbV_yes {l : List Int} (h : cbOk l = true) : cbV l = cob l := by unfold cbV; rw [h]; rfl
theorem cbOk_len {l : List Int} (h : cbOk l = true) : l.length ≤ 300 := by
  unfold cbOk byOk' at h
  exact of_decide_eq_true (Bool.and_eq_true_iff.1 h).1
theorem cbV_len (l : List Int) : (cbV l).length ≤ 601 := by
  cases h : cbOk l
  · rw [cbV_no h]; simp
  · rw [cbV_yes h]
    have h1 := cbOk_len h
    have h2 := cob_len l
    omega
end Go.Proofs.Ytjmaapbodacggaa
