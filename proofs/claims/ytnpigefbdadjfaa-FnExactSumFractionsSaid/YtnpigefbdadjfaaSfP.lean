/- Plain: a sum of two fractions in lowest terms is in lowest terms; the sum of a list. -/
import Derived.Test.YtnpigefbdadjfaaAdJ
namespace Go.Proofs.Ytnpigefbdadjfaa
open Go Go.RowKit
set_option linter.unusedVariables false

theorem cop_sum (P gn : Int) (a ea eb : Nat) (hP : P.natAbs = a * ea) (h1 : Nat.gcd a eb = 1) (h2 : Nat.gcd ea eb = 1) : Nat.gcd (P + gn * (eb : Int)).natAbs eb = 1 := by
  have p1 : Nat.gcd (P + gn * (eb : Int)).natAbs eb ∣ eb := Nat.gcd_dvd_right _ _
  have p2 : ((Nat.gcd (P + gn * (eb : Int)).natAbs eb : Nat) : Int) ∣ P + gn * (eb : Int) := Int.ofNat_dvd_left.2 (Nat.gcd_dvd_left _ _)
  generalize Nat.gcd (P + gn * (eb : Int)).natAbs eb = p at *
  have p3 : (p : Int) ∣ gn * (eb : Int) := Int.dvd_trans (Int.natCast_dvd_natCast.2 p1) (Int.dvd_mul_left _ _)
  have p4 : (p : Int) ∣ P := (Int.dvd_add_left p3).1 p2
  have p5 : p ∣ a * ea := by rw [← hP]; exact Int.ofNat_dvd_left.1 p4
  have c1 : Nat.Coprime p a := Nat.Coprime.coprime_dvd_left p1 (Nat.Coprime.symm h1)
  have p6 : p ∣ ea := c1.dvd_of_dvd_mul_left p5
  have p7 : p ∣ 1 := by rw [← h2]; exact Nat.dvd_gcd p6 p1
  exact Nat.dvd_one.1 p7
/-- Knuth: the sum is in lowest terms. -/
theorem ad_low (fn gn : Int) (fd gd : Nat) (hf : Nat.gcd fn.natAbs fd = 1) (hg : Nat.gcd gn.natAbs gd = 1) (f0 : 0 < fd) (g0 : 0 < gd) : 0 < adM fn gn fd gd ∧ Nat.gcd (adN fn gn fd gd).natAbs (adM fn gn fd gd).natAbs = 1 := by
  have hd0 : 0 < Nat.gcd fd gd := Nat.gcd_pos_of_pos_left _ f0
  obtain ⟨d, hd⟩ : ∃ d, d = Nat.gcd fd gd := ⟨_, rfl⟩
  obtain ⟨ea, hea⟩ : ∃ ea, ea = gd / Nat.gcd fd gd := ⟨_, rfl⟩
  obtain ⟨eb, heb⟩ : ∃ eb, eb = fd / Nat.gcd fd gd := ⟨_, rfl⟩
  have e1 : fd = eb * d := by rw [heb, hd]; exact (Nat.div_mul_cancel (Nat.gcd_dvd_left _ _)).symm
  have e2 : gd = ea * d := by rw [hea, hd]; exact (Nat.div_mul_cancel (Nat.gcd_dvd_right _ _)).symm
  have hc : Nat.gcd ea eb = 1 := by
    rw [hea, heb, Nat.gcd_comm]
    exact Nat.coprime_div_gcd_div_gcd hd0
  have T1 : Nat.gcd (adT fn gn fd gd).natAbs eb = 1 := by
    unfold adT
    rw [← hea, ← heb]
    exact cop_sum _ gn fn.natAbs ea eb (by rw [Int.natAbs_mul]; simp) (Nat.Coprime.coprime_dvd_right ⟨d, e1⟩ hf) hc
  have T2 : Nat.gcd (adT fn gn fd gd).natAbs ea = 1 := by
    unfold adT
    rw [← hea, ← heb, Int.add_comm]
    exact cop_sum _ fn gn.natAbs eb ea (by rw [Int.natAbs_mul]; simp) (Nat.Coprime.coprime_dvd_right ⟨d, e2⟩ hg) (by rw [Nat.gcd_comm]; exact hc)
  obtain ⟨T, hT⟩ : ∃ T, T = (adT fn gn fd gd).natAbs := ⟨_, rfl⟩
  obtain ⟨S, hS⟩ : ∃ S, S = adS fn gn fd gd := ⟨_, rfl⟩
  have hS' : S = Nat.gcd T d := by
    rw [hS]; unfold adS
    rw [← hT, ← hd, ← Nat.gcd_rec, Nat.gcd_comm]
  have s0 : 0 < S := by rw [hS']; exact Nat.gcd_pos_of_pos_right _ (by rw [hd]; exact hd0)
  have sT : S ∣ T := by rw [hS']; exact Nat.gcd_dvd_left _ _
  have sd : S ∣ d := by rw [hS']; exact Nat.gcd_dvd_right _ _
  have eN : (adN fn gn fd gd).natAbs = T / S := by
    unfold adN ovV
    rw [← hS, ← hT]
    split
    · rw [Int.natAbs_neg, Int.natAbs_natCast]
    · rw [Int.natAbs_natCast]
  have eM : adM fn gn fd gd = ((eb * (gd / S) : Nat) : Int) := by
    unfold adM
    rw [← hS, ← heb]; simp
  have eG : gd / S = ea * (d / S) := by rw [e2, Nat.mul_div_assoc _ sd]
  have b0 : 0 < eb := by
    rcases Nat.eq_zero_or_pos eb with h | h
    · rw [h] at e1; omega
    · exact h
  have a0 : 0 < ea := by
    rcases Nat.eq_zero_or_pos ea with h | h
    · rw [h] at e2; omega
    · exact h
  have q0 : 0 < d / S := Nat.div_pos (Nat.le_of_dvd (by rw [hd]; exact hd0) sd) s0
  rw [← hT] at T1 T2
  have dv : T / S ∣ T := Nat.div_dvd_of_dvd sT
  have u1 : Nat.Coprime (T / S) eb := Nat.Coprime.coprime_dvd_left dv T1
  have u2 : Nat.Coprime (T / S) ea := Nat.Coprime.coprime_dvd_left dv T2
  have u3 : Nat.Coprime (T / S) (d / S) := by
    have := Nat.coprime_div_gcd_div_gcd (m := T) (n := d) (by rw [← hS']; exact s0)
    rw [← hS'] at this; exact this
  refine ⟨?_, ?_⟩
  · rw [eM, eG]
    have := Nat.mul_pos b0 (Nat.mul_pos a0 q0)
    omega
  · rw [eN, eM, Int.natAbs_natCast, eG]
    exact Nat.Coprime.mul_right u1 (Nat.Coprime.mul_right u2 u3)
/-- The sum of valid fractions is valid, if its parts are small. -/
theorem ag_valid {fn fd gn gd : Int} (h : agB fn gn fd gd = true) : fIs (agN fn gn fd gd) (agD fn gn fd gd) = true := by
  unfold agB at h
  split at h
  · rename_i hv
    rw [Bool.and_eq_true] at h
    obtain ⟨p1, p2⟩ := h
    have e1 : agN fn gn fd gd = adN fn gn fd.toNat gd.toNat := (if_pos hv).trans (if_pos ⟨p1, p2⟩)
    have e2 : agD fn gn fd gd = adM fn gn fd.toNat gd.toNat := (if_pos hv).trans (if_pos ⟨p1, p2⟩)
    rw [e1, e2]
    obtain ⟨f1, f2, f3, f4, f5⟩ := of_decide_eq_true hv.1
    obtain ⟨g1, g2, g3, g4, g5⟩ := of_decide_eq_true hv.2
    obtain ⟨m0, m1⟩ := ad_low fn gn fd.toNat gd.toNat (by rw [show fd.toNat = fd.natAbs by omega]; exact f5) (by rw [show gd.toNat = gd.natAbs by omega]; exact g5) (by omega) (by omega)
    have q1 := of_decide_eq_true p1
    have q2 := of_decide_eq_true p2
    exact decide_eq_true ⟨by omega, q2.2, q1.1, q1.2, m1⟩
  · cases h
/-- The sum of a list behind a sum, if all on the way are valid. -/
def sfS : List (Int × Int) → Int × Int → Option (Int × Int)
  | [], s => some s
  | x :: t, s => if agB s.1 x.1 s.2 x.2 = true then sfS t (agN s.1 x.1 s.2 x.2, agD s.1 x.1 s.2 x.2) else none
end Go.Proofs.Ytnpigefbdadjfaa
