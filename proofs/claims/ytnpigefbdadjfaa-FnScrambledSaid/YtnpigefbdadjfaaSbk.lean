/- The model's key: l06Key, KeyBits. -/
import Derived.Test.YtnpigefbdadjfaaSbs
import Derived.Test.YtnpigefbdadjfaaKyi
namespace Go.Proofs.Ytnpigefbdadjfaa
open Go Go.RowKit
set_option linter.unusedVariables false
/-- A row of bits in a block from a number on, which may be written. -/
def KR (lo : Nat) (w : World) (v : Value) (M : List Nat) : Prop :=
  ∃ (A : Option Addr) (c : Nat), v = .slice A M.length c ∧ M.length ≤ c ∧ M.length ≤ maxLen ∧
    (0 < M.length → ∃ g o, A = some ⟨g, o, none⟩ ∧ lo ≤ g ∧ g < w.heap.size ∧ ∀ i, i < M.length → w.cell? ⟨g, o + i, none⟩ = some (.int .u8 (M.getD i 0 : Nat)) ∧ w.frozen? ⟨g, o + i, none⟩ = false)
theorem KR.rdn {lo : Nat} {w : World} {v : Value} {M : List Nat} (h : KR lo w v M) : RdN w v M := by
  obtain ⟨A, c, e, h1, h2, h3⟩ := h
  refine ⟨A, c, e, h1, h2, fun h0 => ?_⟩
  obtain ⟨g, o, ea, hlo, hlt, hc⟩ := h3 h0
  exact ⟨g, o, ea, hlt, fun i hi => (hc i hi).1⟩
theorem KR.keep {lo : Nat} {w w' : World} {v : Value} {M : List Nat} (h : KR lo w v M) (hb : Below w.heap.size w w') : KR lo w' v M := by
  obtain ⟨A, c, e, h1, h2, h3⟩ := h
  refine ⟨A, c, e, h1, h2, fun h0 => ?_⟩
  obtain ⟨g, o, ea, hlo, hlt, hc⟩ := h3 h0
  exact ⟨g, o, ea, hlo, Nat.lt_of_lt_of_le hlt hb.size, fun i hi => ⟨(hb.cell (p := ⟨g, o + i, none⟩) hlt).trans (hc i hi).1, (hb.frozen (p := ⟨g, o + i, none⟩) hlt).trans (hc i hi).2⟩⟩
theorem KR.drop {w : World} {lo n c t : Nat} {A : Option Addr} {q : List Nat} (h : OwnN w lo (.slice A n c) q) (ht : t ≤ q.length) : KR lo w (.slice (if c = t then A else A.map (·.add t)) (n - t) (c - t)) (q.drop t) := by
  have h0 := h
  rcases h.2 with ⟨e, hz⟩ | ⟨g, cap, cur, e, h1, hg, h2, h3, h4, h5⟩
  · injection e with e1 e2 e3
    subst e1; subst e2; subst e3
    have hq : q = [] := by
      have := h.1
      rw [natVals_length] at this
      exact List.length_eq_zero_iff.1 (by omega)
    subst hq
    simp at ht
    subst ht
    exact ⟨none, 0, rfl, Nat.le_refl _, by unfold maxLen; simp, fun h => by simp at h⟩
  · injection e with e1 e2 e3
    subst e1; subst e2; subst e3
    refine ⟨_, _, by rw [List.length_drop], by rw [List.length_drop]; omega, by rw [List.length_drop]; omega, fun hp => ?_⟩
    rw [List.length_drop] at hp
    rw [if_neg (by omega)]
    refine ⟨g, 0 + t, by simp [Addr.add]; intro h; omega, h1, ?_, fun i hi => ?_⟩
    · rcases Nat.lt_or_ge g w.heap.size with h' | h'
      · exact h'
      · rw [Array.getElem?_eq_none h'] at hg; cases hg
    · rw [List.length_drop] at hi
      constructor
      · have := World.ownsRow.cellAt (w := w) (base := lo) h (t + i) (by omega)
        rw [Nat.zero_add, this]
        simp [natVals, List.getD, List.getElem?_eq_getElem (show t + i < q.length by omega)]
      · have := World.ownsRow.frozenAt (w := w) (base := lo) h (t + i)
        rw [Nat.zero_add]; exact this

end Go.Proofs.Ytnpigefbdadjfaa
