/- The model's product of fractions. -/
import Derived.Test.YtnpigefbdadjfaaDoorMulA
import Derived.Deep.RegionHeld3
namespace Go.Proofs.YtnpigefbdadjfaaDoor
open Go Go.RowKit
set_option linter.unusedVariables false

theorem mk_bd (n d : Int) (h0 : d ≠ 0) (n1 : -1000000000000000000 ≤ n) (n2 : n ≤ 1000000000000000000) (d1 : -1000000000000000000 ≤ d) (d2 : d ≤ 1000000000000000000) :
    (-1000000000000000000 ≤ mkN n d ∧ mkN n d ≤ 1000000000000000000) ∧ 1 ≤ mkD n d ∧ mkD n d ≤ 1000000000000000000 := by
  refine ⟨?_, ?_⟩
  · unfold mkN; exact tdiv_bd _ _ (by split <;> omega) (by split <;> omega)
  · have hd := tdiv_bd (d.natAbs : Int) (Nat.gcd n.natAbs d.natAbs) (by omega) (by omega)
    refine ⟨?_, hd.2⟩
    unfold mkD
    have hg : 0 < Nat.gcd n.natAbs d.natAbs := Nat.gcd_pos_of_pos_right _ (by omega)
    have hle : Nat.gcd n.natAbs d.natAbs ≤ d.natAbs := Nat.gcd_le_right _ (by omega)
    rw [Int.tdiv_eq_ediv_of_nonneg (by omega)]
    have : 1 ≤ d.natAbs / Nat.gcd n.natAbs d.natAbs := Nat.div_pos hle hg
    omega

theorem mul_parts (A C : Int) : A * C = if decide (A < 0) ≠ decide (C < 0) then -((A.natAbs : Int) * C.natAbs) else (A.natAbs : Int) * C.natAbs := by
  by_cases ha : A < 0
  all_goals by_cases hc : C < 0
  · rw [if_neg (by simp [ha, hc]), show (A.natAbs : Int) = -A from by omega, show (C.natAbs : Int) = -C from by omega, Int.neg_mul_neg]
  · rw [if_pos (by simp [ha, hc]), show (A.natAbs : Int) = -A from by omega, show (C.natAbs : Int) = C from by omega, Int.neg_mul, Int.neg_neg]
  · rw [if_pos (by simp [ha, hc]), show (A.natAbs : Int) = A from by omega, show (C.natAbs : Int) = -C from by omega, Int.mul_neg, Int.neg_neg]
  · rw [if_neg (by simp [ha, hc]), show (A.natAbs : Int) = A from by omega, show (C.natAbs : Int) = C from by omega]
theorem small_part {A C : Int} : smB (A.natAbs * C.natAbs) = ptB (A * C) := by
  have hp : 0 ≤ (A.natAbs : Int) * C.natAbs := Int.mul_nonneg (by omega) (by omega)
  have h := mul_parts A C
  unfold smB ptB
  refine decide_eq_decide.2 ?_
  generalize (A.natAbs : Int) * C.natAbs = P at *
  generalize A * C = Z at *
  split at h <;> omega
theorem small_pos {Z : Int} (h : 0 ≤ Z) : smB Z = ptB Z := by
  unfold smB ptB; exact decide_eq_decide.2 (by omega)

end Go.Proofs.YtnpigefbdadjfaaDoor
