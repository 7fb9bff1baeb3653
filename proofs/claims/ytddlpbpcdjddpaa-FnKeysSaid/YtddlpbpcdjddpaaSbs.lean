/- The model's SelfScramble. -/
import Derived.Test.YtddlpbpcdjddpaaSbm
import Derived.Deep.RegionLaw
import Derived.Deep.AppendLies
import Derived.Test.YtddlpbpcdjddpaaScd
import Derived.Test.YtddlpbpcdjddpaaRgo
namespace Go.Proofs.Ytddlpbpcdjddpaa
open Go Go.RowKit
set_option linter.unusedVariables false
theorem ownN_drew {w : World} {base : Nat} {v : Value} {q : List Nat} (h : OwnN w base v q) : OwnN w.drew base v q := h
theorem own_low {w : World} {base base' : Nat} {e : TypeId} {sz n : Nat} {v : Value} {xs : List Value} (h : w.ownsRow base e sz v n xs) (hle : base' ≤ base) : w.ownsRow base' e sz v n xs := by
  refine ⟨h.1, ?_⟩
  rcases h.2 with h' | ⟨g, cap, cur, h1, h2, h3⟩
  · exact .inl h'
  · exact .inr ⟨g, cap, cur, h1, by omega, h3⟩
/-- A part of a row of bits that is read. -/
theorem rdN_drop {w : World} {A : Option Addr} {n c t : Nat} {q : List Nat} (h : RdN w (.slice A n c) q) (ht : t ≤ q.length) : RdN w (.slice (if c = t then A else A.map (·.add t)) (n - t) (c - t)) (q.drop t) := by
  obtain ⟨A', c', e, h1, h2, h3⟩ := h
  injection e with e1 e2 e3
  subst e1; subst e2; subst e3
  refine ⟨_, _, by rw [List.length_drop], by rw [List.length_drop]; omega, by rw [List.length_drop]; omega, fun h0 => ?_⟩
  rw [List.length_drop] at h0
  obtain ⟨b, o, ea, hlt, hc⟩ := h3 (by omega)
  subst ea
  rw [if_neg (by omega)]
  refine ⟨b, o + t, by simp [Addr.add], hlt, fun i hi => ?_⟩
  rw [List.length_drop] at hi
  have := hc (t + i) (by omega)
  rw [Nat.add_assoc, this]
  simp [List.getD]

end Go.Proofs.Ytddlpbpcdjddpaa
