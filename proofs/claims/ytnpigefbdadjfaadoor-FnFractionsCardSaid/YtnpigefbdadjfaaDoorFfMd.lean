/- Several texts in one: Fractions: plain: sums and products in lowest terms are one, and what was added or multiplied comes off again. | The model's B10Fraction. | The walk of the law FnFractions. | For all codes of fractions, the law FnFractions returns true and leaves its arguments as they were: the row, and its tied card. -/
import Derived.Test.YtnpigefbdadjfaaDoorFfMb
import Derived.Test.YtnpigefbdadjfaaDoorFfMa
import Derived.Test.YtnpigefbdadjfaaDoorFfMc
import Derived.Test.YtnpigefbdadjfaaDoorB10
import Derived.Test.YtnpigefbdadjfaaDoorBk
import Derived.Test.YtnpigefbdadjfaaDoorRows
import Derived.Test.YtnpigefbdadjfaaDoorCards
import Derived.Test.YtnpigefbdadjfaaDoorTie
import Derived.Test.YtnpigefbdadjfaaDoorSrc
import Derived.Carry
import Derived.ProofKit
import Derived.LaidMore
import Derived.OpenShut
import Derived.ShutString
import Derived.ChangeOld
import Derived.Below
import Derived.Stop.Joined
import Derived.Stop.LaidErr
import Derived.Lib.LaidTab
import Derived.SevenTiedAt
import Derived.HandedShaped
namespace Go.Proofs.YtnpigefbdadjfaaDoor
open Go Go.RowKit
set_option linter.unusedVariables false

theorem low_uniq {p r q s : Int} (hq : 0 < q) (hs : 0 < s) (h1 : Nat.gcd p.natAbs q.natAbs = 1) (h2 : Nat.gcd r.natAbs s.natAbs = 1) (h : p * s = r * q) : p = r ∧ q = s := by
  have hn : p.natAbs * s.natAbs = r.natAbs * q.natAbs := by rw [← Int.natAbs_mul, ← Int.natAbs_mul, h]
  have d1 : q.natAbs ∣ s.natAbs := (show Nat.Coprime q.natAbs p.natAbs from Nat.Coprime.symm h1).dvd_of_dvd_mul_left ⟨r.natAbs, by rw [hn, Nat.mul_comm]⟩
  have d2 : s.natAbs ∣ q.natAbs := (show Nat.Coprime s.natAbs r.natAbs from Nat.Coprime.symm h2).dvd_of_dvd_mul_left ⟨p.natAbs, by rw [← hn, Nat.mul_comm]⟩
  have e : q.natAbs = s.natAbs := Nat.dvd_antisymm d1 d2
  have e2 : q = s := by omega
  subst e2
  exact ⟨Int.eq_of_mul_eq_mul_right (by omega) h, rfl⟩
theorem add_core {fn gn a b g s N T : Int} (hT : N * s = T) (hg : T * g = fn * (b * s) + gn * (a * g)) : N * (a * g * (b * s)) = (fn * (b * s) + gn * (a * g)) * (a * b) := by
  grind
theorem sub_core {fn gn fd gd sn sd N M : Int} (h0 : sd * (gd * gd) ≠ 0) (h1 : N * (sd * gd) = (sn * gd + -gn * sd) * M) (h2 : sn * (fd * gd) = (fn * gd + gn * fd) * sd) : N * fd = fn * M := by
  refine Int.eq_of_mul_eq_mul_right h0 ?_
  grind
theorem div_core {fn fd gn gd pn pd tn td N M : Int} (h0 : pd * (td * (gd * gn)) ≠ 0) (h1 : N * (pd * td) = (pn * tn) * M) (h2 : pn * (fd * gd) = (fn * gn) * pd) (h3 : tn * gn = gd * td) : N * fd = fn * M := by
  refine Int.eq_of_mul_eq_mul_right h0 ?_
  grind
theorem mul_core {fn fd gn gd a b c d : Int} (h1 : a * gd = fn * b) (h2 : c * fd = gn * d) : (a * c) * (fd * gd) = (fn * gn) * (b * d) := by
  grind
theorem sign_core {x y K D : Int} (hK : 0 < K) (hD : 0 < D) (h : x * K = y * D) : (x < 0 ↔ y < 0) ∧ (x = 0 ↔ y = 0) := by
  rcases Int.lt_trichotomy x 0 with hx | hx | hx
  · have a := Int.mul_neg_of_neg_of_pos hx hK
    have b : y < 0 := by
      by_cases hy : y < 0
      · exact hy
      · have := Int.mul_nonneg (show 0 ≤ y by omega) (Int.le_of_lt hD); omega
    omega
  · subst hx
    rw [Int.zero_mul] at h
    rcases Int.mul_eq_zero.1 h.symm with e | e <;> omega
  · have a := Int.mul_pos hx hK
    have b : 0 < y := by
      by_cases hy : 0 < y
      · exact hy
      · have := Int.mul_nonneg (show 0 ≤ -y by omega) (Int.le_of_lt hD)
        rw [Int.neg_mul] at this
        omega
    omega
theorem fi_parts {n d : Int} (h : fIs n d = true) : 1 ≤ d ∧ d ≤ 1000000000000000000 ∧ -1000000000000000000 ≤ n ∧ n ≤ 1000000000000000000 ∧ Nat.gcd n.natAbs d.natAbs = 1 := of_decide_eq_true h
theorem fIs_uniq {p q r s : Int} (h1 : fIs p q = true) (h2 : fIs r s = true) (h : p * s = r * q) : p = r ∧ q = s := by
  have a := fi_parts h1
  have b := fi_parts h2
  exact low_uniq (by omega) (by omega) a.2.2.2.2 b.2.2.2.2 h
theorem fIs_ng {n d : Int} (h : fIs n d = true) : fIs (-n) d = true := by
  have a := fi_parts h
  exact decide_eq_true ⟨a.1, a.2.1, by omega, by omega, by rw [Int.natAbs_neg]; exact a.2.2.2.2⟩
theorem mk_all {n d : Int} (h0 : d ≠ 0) : 1 ≤ mkD n d ∧ mkN n d * d = n * mkD n d ∧ Nat.gcd (mkN n d).natAbs (mkD n d).natAbs = 1 ∧ (mkN n d).natAbs ≤ n.natAbs ∧ (mkD n d).natAbs ≤ d.natAbs := by
  have hg : 0 < Nat.gcd n.natAbs d.natAbs := Nat.gcd_pos_of_pos_right _ (by omega)
  obtain ⟨a, ha⟩ := Int.ofNat_dvd_left.2 (Nat.gcd_dvd_left n.natAbs d.natAbs)
  obtain ⟨b, hb⟩ := Int.ofNat_dvd_left.2 (Nat.gcd_dvd_right n.natAbs d.natAbs)
  generalize hG : Nat.gcd n.natAbs d.natAbs = g at *
  have hgi : (g : Int) ≠ 0 := by omega
  have e1 : mkN n d = if d < 0 then -a else a := by
    unfold mkN
    rw [hG]
    split
    · rw [ha, show -((g : Int) * a) = (g : Int) * (-a) by rw [Int.mul_neg], Int.mul_tdiv_cancel_left _ hgi]
    · rw [ha, Int.mul_tdiv_cancel_left _ hgi]
  have hna : n.natAbs = g * a.natAbs := by rw [ha, Int.natAbs_mul, Int.natAbs_natCast]
  have hdb : d.natAbs = g * b.natAbs := by rw [hb, Int.natAbs_mul, Int.natAbs_natCast]
  have e2 : mkD n d = (b.natAbs : Int) := by
    unfold mkD
    rw [hG, hdb, Int.natCast_mul, Int.mul_tdiv_cancel_left _ hgi]
  have hb0 : b ≠ 0 := by intro e; rw [e] at hb; omega
  have hs : d < 0 ↔ b < 0 := by
    constructor
    · intro h
      by_cases h' : b < 0
      · exact h'
      · have := Int.mul_nonneg (show (0 : Int) ≤ g by omega) (show 0 ≤ b by omega); omega
    · intro h
      have := Int.mul_neg_of_pos_of_neg (show (0 : Int) < g by omega) h; omega
  have hc : Nat.gcd a.natAbs b.natAbs = 1 := by
    rw [hna, hdb, Nat.gcd_mul_left] at hG
    exact Nat.eq_of_mul_eq_mul_left hg (by omega)
  have hge : ∀ x : Nat, x ≤ g * x := fun x => Nat.le_mul_of_pos_left x hg
  rw [e1, e2]
  refine ⟨by omega, ?_, ?_, ?_, ?_⟩
  · by_cases h : d < 0
    · have h2 := hs.1 h
      rw [if_pos h, show ((b.natAbs : Nat) : Int) = -b by omega, ha, hb]
      grind
    · have h2 : ¬ b < 0 := fun e => h (hs.2 e)
      rw [if_neg h, show ((b.natAbs : Nat) : Int) = b by omega, ha, hb]
      grind
  · rw [Int.natAbs_natCast]
    split
    · rw [Int.natAbs_neg]; exact hc
    · exact hc
  · have := hge a.natAbs
    split <;> omega
  · have := hge b.natAbs
    omega
theorem mk_fIs {n d : Int} (h0 : d ≠ 0) (h1 : n.natAbs ≤ 1000000000000000000) (h2 : d.natAbs ≤ 1000000000000000000) : fIs (mkN n d) (mkD n d) = true := by
  obtain ⟨a, -, c, e, f⟩ := mk_all (n := n) h0
  exact decide_eq_true ⟨a, by omega, by omega, by omega, c⟩
theorem ovV_mul {Z : Int} {d : Nat} (h : d ∣ Z.natAbs) : ovV Z d * (d : Int) = Z := by
  have e := Nat.div_mul_cancel h
  unfold ovV
  split
  · rw [Int.neg_mul, ← Int.natCast_mul, e]; omega
  · rw [← Int.natCast_mul, e]; omega
theorem ovV_le (Z : Int) (d : Nat) : (ovV Z d).natAbs ≤ Z.natAbs := by
  have := Nat.div_le_self Z.natAbs d
  unfold ovV
  generalize Z.natAbs / d = x at *
  split <;> omega
theorem ad_eq (fn gn : Int) (fd gd : Nat) (f0 : 0 < fd) (g0 : 0 < gd) :
    adN fn gn fd gd * ((fd : Int) * gd) = (fn * gd + gn * fd) * adM fn gn fd gd ∧ (adN fn gn fd gd).natAbs ≤ fn.natAbs * gd + gn.natAbs * fd ∧ (adM fn gn fd gd).natAbs ≤ fd * gd := by
  have hg : 0 < Nat.gcd fd gd := Nat.gcd_pos_of_pos_left _ f0
  have d1 := Nat.div_mul_cancel (Nat.gcd_dvd_left fd gd)
  have d2 := Nat.div_mul_cancel (Nat.gcd_dvd_right fd gd)
  have hse : adS fn gn fd gd = Nat.gcd (Nat.gcd fd gd) (adT fn gn fd gd).natAbs := (Nat.gcd_rec _ _).symm
  have hs1 : adS fn gn fd gd ∣ (adT fn gn fd gd).natAbs := by rw [hse]; exact Nat.gcd_dvd_right _ _
  have hs2 : adS fn gn fd gd ∣ gd := by rw [hse]; exact Nat.dvd_trans (Nat.gcd_dvd_left _ _) (Nat.gcd_dvd_right _ _)
  have d3 := Nat.div_mul_cancel hs2
  have hT : adN fn gn fd gd * (adS fn gn fd gd : Int) = adT fn gn fd gd := ovV_mul hs1
  have l1 := ovV_le (adT fn gn fd gd) (adS fn gn fd gd)
  have l2 : (adT fn gn fd gd).natAbs ≤ fn.natAbs * gd + gn.natAbs * fd := by
    unfold adT
    refine Nat.le_trans (Int.natAbs_add_le _ _) ?_
    rw [Int.natAbs_mul, Int.natAbs_mul, Int.natAbs_natCast, Int.natAbs_natCast]
    exact Nat.add_le_add (Nat.mul_le_mul_left _ (Nat.div_le_self _ _)) (Nat.mul_le_mul_left _ (Nat.div_le_self _ _))
  refine ⟨?_, Nat.le_trans l1 l2, ?_⟩
  · have hg2 : adT fn gn fd gd * (Nat.gcd fd gd : Int) = fn * gd + gn * fd := by
      unfold adT
      rw [Int.add_mul, Int.mul_assoc, Int.mul_assoc, ← Int.natCast_mul, ← Int.natCast_mul, d1, d2]
    have a1 : ((fd / Nat.gcd fd gd : Nat) : Int) * (Nat.gcd fd gd : Int) = fd := by rw [← Int.natCast_mul, d1]
    have a2 : ((gd / adS fn gn fd gd : Nat) : Int) * (adS fn gn fd gd : Int) = gd := by rw [← Int.natCast_mul, d3]
    have := add_core (fn := fn) (gn := gn) (a := ((fd / Nat.gcd fd gd : Nat) : Int)) (b := ((gd / adS fn gn fd gd : Nat) : Int)) (g := (Nat.gcd fd gd : Int)) (s := (adS fn gn fd gd : Int)) (N := adN fn gn fd gd) (T := adT fn gn fd gd) hT (by rw [hg2, a1, a2])
    rw [a1, a2] at this
    exact this
  · unfold adM
    rw [← Int.natCast_mul, Int.natAbs_natCast]
    exact Nat.mul_le_mul (Nat.div_le_self _ _) (Nat.div_le_self _ _)
theorem ptB_small {Z : Int} (h : Z.natAbs ≤ 1000000000000000000) : ptB Z = true := decide_eq_true (by omega)
theorem ag_small {fn fd gn gd : Int} (hf : fIs fn fd = true) (hg : fIs gn gd = true) (B : Nat) (hB : B ≤ 100000) (b1 : fn.natAbs ≤ B) (b2 : fd.natAbs ≤ B) (b3 : gn.natAbs ≤ B) (b4 : gd.natAbs ≤ B) :
    agB fn gn fd gd = true ∧ fIs (agN fn gn fd gd) (agD fn gn fd gd) = true ∧ agN fn gn fd gd * (fd * gd) = (fn * gd + gn * fd) * agD fn gn fd gd ∧ (agN fn gn fd gd).natAbs ≤ B * B + B * B ∧ (agD fn gn fd gd).natAbs ≤ B * B := by
  have p1 := fi_parts hf
  have p2 := fi_parts hg
  obtain ⟨q1, q2, q3⟩ := ad_eq fn gn fd.toNat gd.toNat (by omega) (by omega)
  have hBB : B * B ≤ 100000 * 100000 := Nat.mul_le_mul hB hB
  have m1 : fn.natAbs * gd.toNat ≤ B * B := Nat.mul_le_mul b1 (by omega)
  have m2 : gn.natAbs * fd.toNat ≤ B * B := Nat.mul_le_mul b3 (by omega)
  have m3 : fd.toNat * gd.toNat ≤ B * B := Nat.mul_le_mul (by omega) (by omega)
  have k1 : ptB (adN fn gn fd.toNat gd.toNat) = true := ptB_small (by omega)
  have k2 : ptB (adM fn gn fd.toNat gd.toNat) = true := ptB_small (by omega)
  have eB : agB fn gn fd gd = true := by unfold agB; rw [if_pos ⟨hf, hg⟩, k1, k2]; rfl
  have eN : agN fn gn fd gd = adN fn gn fd.toNat gd.toNat := (if_pos ⟨hf, hg⟩).trans (if_pos ⟨k1, k2⟩)
  have eD : agD fn gn fd gd = adM fn gn fd.toNat gd.toNat := (if_pos ⟨hf, hg⟩).trans (if_pos ⟨k1, k2⟩)
  refine ⟨eB, ag_valid eB, ?_, ?_, ?_⟩
  · rw [eN, eD]
    rw [show ((fd.toNat : Nat) : Int) = fd by omega, show ((gd.toNat : Nat) : Int) = gd by omega] at q1
    exact q1
  · rw [eN]; omega
  · rw [eD]; omega
theorem sub_back {fn fd gn gd : Int} (hf : fIs fn fd = true) (hg : fIs gn gd = true) (b1 : fn.natAbs ≤ 100) (b2 : fd.natAbs ≤ 100) (b3 : gn.natAbs ≤ 100) (b4 : gd.natAbs ≤ 100) :
    agN (agN fn gn fd gd) (-gn) (agD fn gn fd gd) gd = fn ∧ agD (agN fn gn fd gd) (-gn) (agD fn gn fd gd) gd = fd ∧ agB (agN fn gn fd gd) (-gn) (agD fn gn fd gd) gd = true := by
  obtain ⟨a1, a2, a3, a4, a5⟩ := ag_small hf hg 100 (by omega) b1 b2 b3 b4
  obtain ⟨c1, c2, c3, c4, c5⟩ := ag_small a2 (fIs_ng hg) 20000 (by omega) (by omega) (by omega) (by omega) (by omega)
  have p1 := fi_parts a2
  have p2 := fi_parts hg
  obtain ⟨u, v⟩ := fIs_uniq c2 hf (sub_core (Int.mul_ne_zero (by omega) (Int.mul_ne_zero (by omega) (by omega))) c3 a3)
  exact ⟨u, v, c1⟩
theorem diff_sign {fn fd gn gd : Int} (hf : fIs fn fd = true) (hg : fIs gn gd = true) (b1 : fn.natAbs ≤ 100) (b2 : fd.natAbs ≤ 100) (b3 : gn.natAbs ≤ 100) (b4 : gd.natAbs ≤ 100) :
    agB fn (-gn) fd gd = true ∧ cpB fn fd gn gd = true ∧ decide (cpV fn fd gn gd < 0) = decide (agN fn (-gn) fd gd < 0) ∧ (cpV fn fd gn gd == 0) = (agN fn (-gn) fd gd == 0) := by
  obtain ⟨a1, a2, a3, a4, a5⟩ := ag_small hf (fIs_ng hg) 100 (by omega) b1 b2 (by omega) b4
  have p1 := fi_parts a2
  have p2 := fi_parts hg
  have p3 := fi_parts hf
  obtain ⟨s1, s2⟩ := sign_core (Int.mul_pos (show 0 < fd by omega) (show 0 < gd by omega)) (by omega) a3
  have hv : cpV fn fd gn gd = sgn (fn * gd + -gn * fd) := if_pos ⟨hf, hg⟩
  refine ⟨a1, decide_eq_true ⟨hf, hg⟩, ?_, ?_⟩
  · rw [hv]
    refine decide_eq_decide.2 (Iff.trans ?_ s1.symm)
    unfold sgn
    split
    · simp_all
    · split <;> simp_all
  · rw [hv, Bool.eq_iff_iff, beq_iff_eq, beq_iff_eq]
    refine Iff.trans ?_ s2.symm
    unfold sgn
    split
    · constructor <;> intro h <;> omega
    · split
      · constructor <;> intro h <;> omega
      · constructor <;> intro h <;> omega
theorem ml_small {fn fd gn gd : Int} (hf : fIs fn fd = true) (hg : fIs gn gd = true) (B : Nat) (hB : B ≤ 100000) (b1 : fn.natAbs ≤ B) (b2 : fd.natAbs ≤ B) (b3 : gn.natAbs ≤ B) (b4 : gd.natAbs ≤ B) :
    mlB fn fd gn gd = true ∧ fIs (mlN fn fd gn gd) (mlD fn fd gn gd) = true ∧ mlN fn fd gn gd * (fd * gd) = (fn * gn) * mlD fn fd gn gd ∧ (mlN fn fd gn gd).natAbs ≤ B * B ∧ (mlD fn fd gn gd).natAbs ≤ B * B := by
  have p1 := fi_parts hf
  have p2 := fi_parts hg
  have hBB : B * B ≤ 100000 * 100000 := Nat.mul_le_mul hB hB
  obtain ⟨x1, x2, x3, x4, x5⟩ := mk_all (n := fn) (show gd ≠ 0 by omega)
  obtain ⟨y1, y2, y3, y4, y5⟩ := mk_all (n := gn) (show fd ≠ 0 by omega)
  have m : mfOk fn fd gn gd := ⟨hf, hg⟩
  have hN : (mkN fn gd * mkN gn fd).natAbs ≤ B * B := by rw [Int.natAbs_mul]; exact Nat.mul_le_mul (by omega) (by omega)
  have hD : (mkD fn gd * mkD gn fd).natAbs ≤ B * B := by rw [Int.natAbs_mul]; exact Nat.mul_le_mul (by omega) (by omega)
  have k1 : ptB (mkN fn gd * mkN gn fd) = true := ptB_small (by omega)
  have k2 : ptB (mkD fn gd * mkD gn fd) = true := ptB_small (by omega)
  have eB : mlB fn fd gn gd = true := by unfold mlB; rw [if_pos m, k1, k2]; rfl
  have eN : mlN fn fd gn gd = mkN fn gd * mkN gn fd := (if_pos m).trans (if_pos ⟨k1, k2⟩)
  have eD : mlD fn fd gn gd = mkD fn gd * mkD gn fd := (if_pos m).trans (if_pos ⟨k1, k2⟩)
  have w1 : (mkN fn gd).natAbs ∣ fn.natAbs := by
    have h := congrArg Int.natAbs x2
    rw [Int.natAbs_mul, Int.natAbs_mul] at h
    exact (show Nat.Coprime (mkN fn gd).natAbs (mkD fn gd).natAbs from x3).dvd_of_dvd_mul_right ⟨gd.natAbs, h.symm⟩
  have w2 : (mkD fn gd).natAbs ∣ gd.natAbs := by
    have h := congrArg Int.natAbs x2
    rw [Int.natAbs_mul, Int.natAbs_mul] at h
    exact (show Nat.Coprime (mkD fn gd).natAbs (mkN fn gd).natAbs from Nat.Coprime.symm x3).dvd_of_dvd_mul_left ⟨fn.natAbs, by rw [h, Nat.mul_comm]⟩
  have w3 : (mkN gn fd).natAbs ∣ gn.natAbs := by
    have h := congrArg Int.natAbs y2
    rw [Int.natAbs_mul, Int.natAbs_mul] at h
    exact (show Nat.Coprime (mkN gn fd).natAbs (mkD gn fd).natAbs from y3).dvd_of_dvd_mul_right ⟨fd.natAbs, h.symm⟩
  have w4 : (mkD gn fd).natAbs ∣ fd.natAbs := by
    have h := congrArg Int.natAbs y2
    rw [Int.natAbs_mul, Int.natAbs_mul] at h
    exact (show Nat.Coprime (mkD gn fd).natAbs (mkN gn fd).natAbs from Nat.Coprime.symm y3).dvd_of_dvd_mul_left ⟨gn.natAbs, by rw [h, Nat.mul_comm]⟩
  have z1 : Nat.Coprime (mkN fn gd).natAbs (mkD gn fd).natAbs := Nat.Coprime.coprime_dvd_left w1 (Nat.Coprime.coprime_dvd_right w4 p1.2.2.2.2)
  have z2 : Nat.Coprime (mkN gn fd).natAbs (mkD fn gd).natAbs := Nat.Coprime.coprime_dvd_left w3 (Nat.Coprime.coprime_dvd_right w2 p2.2.2.2.2)
  have hc : Nat.gcd (mkN fn gd * mkN gn fd).natAbs (mkD fn gd * mkD gn fd).natAbs = 1 := by
    rw [Int.natAbs_mul, Int.natAbs_mul]
    exact Nat.Coprime.mul_left (Nat.Coprime.mul_right x3 z1) (Nat.Coprime.mul_right z2 y3)
  have hp : 0 < mkD fn gd * mkD gn fd := Int.mul_pos (by omega) (by omega)
  refine ⟨eB, ?_, ?_, by rw [eN]; exact hN, by rw [eD]; exact hD⟩
  · rw [eN, eD]
    exact decide_eq_true ⟨by omega, by omega, by omega, by omega, hc⟩
  · rw [eN, eD]
    exact mul_core x2 y2
theorem dv_back {fn fd gn gd : Int} (hf : fIs fn fd = true) (hg : fIs gn gd = true) (h0 : gn ≠ 0) (b1 : fn.natAbs ≤ 100) (b2 : fd.natAbs ≤ 100) (b3 : gn.natAbs ≤ 100) (b4 : gd.natAbs ≤ 100) :
    dvN (mlN fn fd gn gd) (mlD fn fd gn gd) gn gd = fn ∧ dvD (mlN fn fd gn gd) (mlD fn fd gn gd) gn gd = fd ∧ dvB (mlN fn fd gn gd) (mlD fn fd gn gd) gn gd = true := by
  obtain ⟨a1, a2, a3, a4, a5⟩ := ml_small hf hg 100 (by omega) b1 b2 b3 b4
  have hk : dvOk gn gd := ⟨hg, h0⟩
  have ht := turned_ok hg h0
  have p1 := fi_parts a2
  have p2 := fi_parts hg
  have p3 := fi_parts ht
  obtain ⟨t1, t2, t3, t4, t5⟩ := mk_all (n := gd) h0
  obtain ⟨c1, c2, c3, c4, c5⟩ := ml_small a2 ht 10000 (by omega) (by omega) (by omega) (by omega) (by omega)
  have e1 : dvN (mlN fn fd gn gd) (mlD fn fd gn gd) gn gd = mlN (mlN fn fd gn gd) (mlD fn fd gn gd) (mkN gd gn) (mkD gd gn) := if_pos hk
  have e2 : dvD (mlN fn fd gn gd) (mlD fn fd gn gd) gn gd = mlD (mlN fn fd gn gd) (mlD fn fd gn gd) (mkN gd gn) (mkD gd gn) := if_pos hk
  have e3 : dvB (mlN fn fd gn gd) (mlD fn fd gn gd) gn gd = mlB (mlN fn fd gn gd) (mlD fn fd gn gd) (mkN gd gn) (mkD gd gn) := if_pos hk
  rw [e1, e2, e3]
  obtain ⟨u, v⟩ := fIs_uniq c2 hf (div_core (Int.mul_ne_zero (by omega) (Int.mul_ne_zero (by omega) (Int.mul_ne_zero (by omega) h0))) c3 a3 t2)
  exact ⟨u, v, c1⟩
theorem sum_two {fn fd gn gd : Int} (hf : fIs fn fd = true) (hg : fIs gn gd = true) (b1 : fn.natAbs ≤ 100) (b2 : fd.natAbs ≤ 100) (b3 : gn.natAbs ≤ 100) (b4 : gd.natAbs ≤ 100) :
    suN [(fn, fd), (gn, gd)] = agN fn gn fd gd ∧ suD [(fn, fd), (gn, gd)] = agD fn gn fd gd ∧ suO [(fn, fd), (gn, gd)] = true := by
  have hz : fIs 0 1 = true := by decide
  obtain ⟨a1, a2, a3, a4, a5⟩ := ag_small hz hf 100 (by omega) (by omega) (by omega) b1 b2
  obtain ⟨u, v⟩ := fIs_uniq a2 hf (by grind)
  obtain ⟨c1, -⟩ := ag_small hf hg 100 (by omega) b1 b2 b3 b4
  have hs : sfS [(fn, fd), (gn, gd)] (0, 1) = some (agN fn gn fd gd, agD fn gn fd gd) := by
    unfold sfS
    dsimp only
    rw [if_pos a1, u, v]
    unfold sfS
    dsimp only
    rw [if_pos c1]
    rfl
  obtain ⟨s1, s2, s3⟩ := sf_some hs
  exact ⟨(if_pos (by simp)).trans s1, (if_pos (by simp)).trans s2, (if_pos (by simp)).trans s3⟩
theorem itoa_no47 (n : Int) : ∀ j : Nat, (Lib.itoa n)[j]? ≠ some 47 := by
  intro j h
  have hm := List.mem_of_getElem? h
  have hd : ∀ u, ¬ (47 : UInt8) ∈ Lib.decDigits u := fun u e => by
    have := dig_dec u _ e
    unfold isDig at this
    simp at this
  by_cases h0 : n < 0
  · obtain ⟨u, rfl⟩ : ∃ u : Nat, n = -(u : Int) := ⟨n.natAbs, by omega⟩
    rw [Lib.itoa_neg u (by omega)] at hm
    rcases List.mem_cons.1 hm with e | e
    · cases e
    · exact hd u e
  · obtain ⟨u, rfl⟩ := Int.eq_ofNat_of_zero_le (show 0 ≤ n by omega)
    rw [Lib.itoa_nonneg] at hm
    exact hd u hm
theorem read_back {n d : Int} (h : fIs n d = true) : FR (fTV n d).data.toList = (n, d, true) := by
  have p := fi_parts h
  have e : fTV n d = fT n d := by unfold fTV; rw [if_pos h]
  rw [e]
  obtain ⟨r1, r2⟩ := rd_yes (M := MP) (l := Lib.itoa n) (v := n) (by decide) (by show -1000000000000000000 ≤ n; omega) (by show n ≤ 1000000000000000000; omega) rfl
  by_cases h1 : d = 1
  · subst h1
    rw [fT_one]
    show FR (Lib.itoa n) = _
    rw [FR_whole (cut_no (itoa_no47 n)) r2, r1]
  · obtain ⟨q1, q2⟩ := rd_yes (M := MP) (l := Lib.itoa d) (v := d) (by decide) (by show -1000000000000000000 ≤ d; omega) (by show d ≤ 1000000000000000000; omega) rfl
    rw [fT_list h1]
    have hc := cut_yes (l := Lib.itoa n ++ 47 :: Lib.itoa d) (k := (Lib.itoa n).length) (by simp) (fun j hj => by rw [List.getElem?_append_left hj]; exact itoa_no47 n j)
    rw [List.take_left, show (Lib.itoa n ++ 47 :: Lib.itoa d).drop ((Lib.itoa n).length + 1) = Lib.itoa d by simp] at hc
    rw [FR_yes hc r2 q2 (by rw [r1, q1]; exact h) (by rw [q1]; exact h1), r1, q1]
theorem bin_pascal {m k : Nat} (hm : 2 ≤ m ∧ m ≤ 59) (hk : 1 ≤ k ∧ k ≤ m - 1) :
    binOk m k = true ∧ binOk ((m : Int) - 1) ((k : Int) - 1) = true ∧ binOk ((m : Int) - 1) k = true ∧ binV m k = binV ((m : Int) - 1) ((k : Int) - 1) + binV ((m : Int) - 1) k ∧ 0 ≤ binV m k ∧ binV m k ≤ 118264581564861424 := by
  obtain ⟨m, rfl⟩ : ∃ x, m = x + 1 := ⟨m - 1, by omega⟩
  obtain ⟨k, rfl⟩ : ∃ x, k = x + 1 := ⟨k - 1, by omega⟩
  have e1 : binOk ((m + 1 : Nat) : Int) ((k + 1 : Nat) : Int) = true := decide_eq_true (by omega)
  have e2 : binOk (((m + 1 : Nat) : Int) - 1) (((k + 1 : Nat) : Int) - 1) = true := decide_eq_true (by omega)
  have e3 : binOk (((m + 1 : Nat) : Int) - 1) ((k + 1 : Nat) : Int) = true := decide_eq_true (by omega)
  have v1 : binV ((m + 1 : Nat) : Int) ((k + 1 : Nat) : Int) = (pas (m + 1) (k + 1) : Nat) := by unfold binV; rw [if_pos e1]; rfl
  have v2 : binV (((m + 1 : Nat) : Int) - 1) (((k + 1 : Nat) : Int) - 1) = (pas m k : Nat) := by
    unfold binV; rw [if_pos e2, show (((m + 1 : Nat) : Int) - 1).toNat = m by omega, show (((k + 1 : Nat) : Int) - 1).toNat = k by omega]
  have v3 : binV (((m + 1 : Nat) : Int) - 1) ((k + 1 : Nat) : Int) = (pas m (k + 1) : Nat) := by
    unfold binV; rw [if_pos e3, show (((m + 1 : Nat) : Int) - 1).toNat = m by omega, Int.toNat_natCast]
  have hle := pas_le (m + 1) (k + 1) (by omega)
  refine ⟨e1, e2, e3, ?_, ?_, ?_⟩
  · rw [v1, v2, v3, pas_succ]; omega
  · rw [v1]; omega
  · rw [v1]; omega
theorem mk_back {n d : Int} (h : fIs n d = true) (b1 : n.natAbs ≤ 100) (b2 : d.natAbs ≤ 100) : mkN (-6 * n) (-6 * d) = n ∧ mkD (-6 * n) (-6 * d) = d := by
  have p := fi_parts h
  obtain ⟨a1, a2, a3, a4, a5⟩ := mk_all (n := -6 * n) (show -6 * d ≠ 0 by omega)
  refine fIs_uniq (mk_fIs (by omega) (by omega) (by omega)) h ?_
  grind
end Go.Proofs.YtnpigefbdadjfaaDoor

namespace Go.Proofs.YtnpigefbdadjfaaDoor
open Go Go.RowKit
set_option linter.unusedVariables false

theorem rdv_keepC {w w' : World} {v : Value} {l : List Value} (h : RdV (· < w.heap.size) w v l) (hb : Below w.heap.size w w') : RdV (· < w'.heap.size) w' v l := by
  obtain ⟨A, n, c, e, hn, h1, h2, h3⟩ := h.keep hb
  refine ⟨A, n, c, e, hn, h1, h2, fun h0 => ?_⟩
  obtain ⟨b, o, ea, hK, hlt, hc⟩ := h3 h0
  exact ⟨b, o, ea, hlt, hlt, hc⟩
theorem bk_gbC {W W' : World} {b : Nat} {cs : List Value} {row : Option Nat} (h : Bk W b cs) (hg : W.grownBy W' row) (hne : ∀ k, row = some k → k ≠ b) : Bk W' b cs :=
  have e := hg.block b h.2.2 (fun e => hne b e.symm rfl)
  ⟨fun i x hx => by rw [World.cell?_of_block e]; exact h.1 i x hx, fun i hi => by rw [World.frozen?_of_block e]; exact h.2.1 i hi, Nat.lt_of_lt_of_le h.2.2 hg.size⟩
set_option maxRecDepth 100000 in
set_option maxHeartbeats 1000000 in
theorem b10Fraction_any (w : World) (v : Value) (l : List Value) (h : RdV (· < w.heap.size) w v l) (hb : ∀ x ∈ l, ∃ y : Int, x = .int .u8 y ∧ 0 ≤ y ∧ y ≤ 255) :
    Calls Tryd.prog 21 #[v] w fun e w' => ∃ p d : Int, e = .returned (.agg #[.int .i64 p, .int .i64 d]) ∧ (fIs p d = true ∧ p.natAbs ≤ 100 ∧ d.natAbs ≤ 100) ∧ Below w.heap.size w w' := by
  obtain ⟨W0, hW0⟩ : ∃ W0, W0 = w.alloc (.cells #[.int .i64 0, .int .i64 0] 36) := ⟨_, rfl⟩
  have K0 : Hid (Below w.heap.size w W0) := by show Below _ _ _; rw [hW0]; exact (Below.refl _ _).alloc (Nat.le_refl _) _
  have X0 : Hid (Bk W0 w.heap.size [.int .i64 0, .int .i64 0]) := by show Bk _ _ _; rw [hW0]; exact Bk.new w [.int .i64 0, .int .i64 0] _ _ rfl
  have HF := Lib.hid (src_from v l W0 (rdv_keepC h K0.out) hb)
  have HW0 := Lib.hid hW0
  have hlt : w.heap.size < W0.heap.size := X0.out.2.2
  clear hW0 hb h
  go_enter Tryd.func21, Tryd.ntmps21
  go_wp2_with fail
  rw [← HW0.out]
  refine HF.out.mono ?_; rintro e w1 ⟨rfl, hs1, hb1⟩
  have X1 := Lib.hid (X0.out.keep hb1)
  have K1 := Lib.hid (K0.out.trans (hb1.mono K0.out.size))
  have S1 := Lib.hid hs1
  have Z1 := Lib.hid hb1.size
  clear hs1 hb1 HF X0
  go_wp2_with fail
  refine (src_pick _ v l _ 0 60 w1 (by omega) (by omega) S1.out).mono ?_; rintro e w2 ⟨r, rfl, ⟨hr0, hr1, -⟩, hs2, hg2⟩
  have X2 := Lib.hid (bk_gbC X1.out hg2 (fun k hk => by injection hk with hk; omega))
  have K2 := Lib.hid (K1.out.grown hg2 K1.out.size (fun k hk => by injection hk with hk; have := K0.out.size; omega))
  have S2 := Lib.hid hs2
  have hr := hr1 (by omega)
  have wa : IntKind.i64.wrap (r - 20) = r - 20 := IntWalk.i64_in _ (by omega)
  clear hs2 hg2 S1 X1 K1 hr1
  go_wp2_with fail
  refine (src_pick _ v l _ 2 40 w2 (by omega) (by omega) S2.out).mono ?_; rintro e w3 ⟨t, rfl, ⟨ht0, ht1, -⟩, hs3, hg3⟩
  have X3 := Lib.hid (bk_gbC X2.out hg3 (fun k hk => by injection hk with hk; omega))
  have K3 := Lib.hid (K2.out.grown hg3 K2.out.size (fun k hk => by injection hk with hk; have := K0.out.size; omega))
  have ht := ht1 (by omega)
  have wb : IntKind.i64.wrap (1 + t) = 1 + t := IntWalk.i64_in _ (by omega)
  obtain ⟨-, -, -, m1, m2⟩ := mk_all (n := r - 20) (show 1 + t ≠ 0 by omega)
  have hfi := mk_fIs (n := r - 20) (show 1 + t ≠ 0 by omega) (by omega) (by omega)
  have HA : Hid (fIs (mkN (r - 20) (1 + t)) (mkD (r - 20) (1 + t)) = true ∧ (mkN (r - 20) (1 + t)).natAbs ≤ 100 ∧ (mkD (r - 20) (1 + t)).natAbs ≤ 100) := ⟨hfi, by omega, by omega⟩
  have HM := Lib.hid (fun W => l01FMake_any (r - 20) (1 + t) W (by omega) (by omega) (by omega) (by omega) (by omega))
  clear hfi m1 m2
  generalize mkN (r - 20) (1 + t) = p at *
  generalize mkD (r - 20) (1 + t) = e' at *
  clear hs3 hg3 S2 X2 K2 ht1
  go_wp2_with fail
  refine (HM.out _).mono ?_; rintro e w4 ⟨rfl, hb4⟩
  have X4 := Lib.hid (X3.out.keep hb4)
  have K4 := Lib.hid (K3.out.trans (hb4.mono K3.out.size))
  clear hb4
  have r0 := X4.out.c 0 _ rfl
  have r1 := X4.out.c 1 _ rfl
  have f0 := X4.out.f 0 (by decide)
  have f1 := X4.out.f 1 (by decide)
  go_wp2_with fail
  simp [bodyPost, results, Tryd.results21, go_sem, r0, r1]
  exact ⟨p, e', ⟨rfl, rfl⟩, HA.out, (K4.out.setCell (p := ⟨w.heap.size, 0, none⟩) (Nat.le_refl _) _).setCell (p := ⟨w.heap.size, 1, none⟩) (Nat.le_refl _) _⟩
end Go.Proofs.YtnpigefbdadjfaaDoor

namespace Go.Proofs.YtnpigefbdadjfaaDoor
open Go Go.RowKit
set_option linter.unusedVariables false

/-- Boxes of fractions. -/
def Bxs (W : World) (L : List (Nat × Int × Int)) : Prop := ∀ x ∈ L, Bk W x.1 [.int .i64 x.2.1, .int .i64 x.2.2]
theorem Bxs.keep {W W' : World} {L : List (Nat × Int × Int)} (h : Bxs W L) (hb : Below W.heap.size W W') : Bxs W' L := fun x hx => (h x hx).keep hb
theorem Bxs.cons {W : World} {L : List (Nat × Int × Int)} (h : Bxs W L) (x y : Int) (t : TypeId) : Bxs (W.alloc (.cells #[.int .i64 x, .int .i64 y] t)) ((W.heap.size, x, y) :: L) := by
  intro z hz
  rcases List.mem_cons.1 hz with rfl | hz
  · exact Bk.new W [.int .i64 x, .int .i64 y] t W.heap.size rfl
  · exact (h z hz).alloc _
theorem Bxs.c {W : World} {L : List (Nat × Int × Int)} (h : Bxs W L) (b : Nat) (x y : Int) (hm : (b, x, y) ∈ L) : W.cell? ⟨b, 0, none⟩ = some (.int .i64 x) ∧ W.cell? ⟨b, 1, none⟩ = some (.int .i64 y) := ⟨(h _ hm).c 0 _ rfl, (h _ hm).c 1 _ rfl⟩
theorem below_dnF {B : Nat} {w w' : World} (h : Below B w w') (q : Nat) : Below B w (w'.drewN q) := ⟨h.os, h.tape, h.output, by simpa using h.size, fun k hk => by simpa using h.block k hk⟩
theorem rdF_two (W : World) (t : TypeId) (p d q e : Int) (c : Nat) : RdF (W.alloc (.cells #[.int .i64 p, .int .i64 d, .int .i64 q, .int .i64 e] t)) (.slice (some ⟨W.heap.size, 0, none⟩) 2 c) [(p, d), (q, e)] := by
  refine ⟨_, _, _, rfl, rfl, fun _ => ⟨W.heap.size, 0, rfl, by simp, fun i hi => ?_⟩⟩
  have hi2 : i < 2 := hi
  rcases i with _ | _ | i
  · exact ⟨by rw [World.cell?_alloc_at _ _ _ _ rfl]; rfl, by rw [World.cell?_alloc_at _ _ _ _ rfl]; rfl⟩
  · exact ⟨by rw [World.cell?_alloc_at _ _ _ _ rfl]; rfl, by rw [World.cell?_alloc_at _ _ _ _ rfl]; rfl⟩
  · omega
theorem fTV_size {n d : Int} (h : fIs n d = true) : (fTV n d).size ≤ 1048576 := by
  have p := fi_parts h
  have h1 := itoa_size n (by omega) (by omega)
  have h2 := itoa_size d (by omega) (by omega)
  unfold fTV
  rw [if_pos h]
  unfold fT
  split
  · omega
  · rw [ByteArray.size_append, ByteArray.size_append, show (⟨#[47]⟩ : ByteArray).size = 1 from rfl]; omega
theorem b10At_one (A : Option Addr) (n c : Nat) (w : World) :
    Calls Tryd.prog 31 #[.slice A n c, .int .i64 1, .int .i64 1] w fun e w' => e = .returned (.int .i64 0) ∧ w = w' := by
  go_enter Tryd.func31, Tryd.ntmps31
  go_wp2_with fail
  go_ret
  exact ⟨rfl, rfl⟩
theorem b10N_bd (l : List Value) (k t : Nat) (ht : 0 < t) : 0 ≤ b10N l k t ∧ b10N l k t < t := by
  unfold b10N
  split <;> (constructor <;> first | omega | exact Int.emod_nonneg _ (by omega) | exact Int.emod_lt_of_pos _ (by omega))

set_option maxHeartbeats 16000000 in
set_option maxRecDepth 100000 in
theorem law_FnFractions (v0 : Value) (l0 : List Value) (k0 : ∀ x ∈ l0, ∃ y : Int, x = .int .u8 y ∧ 0 ≤ y ∧ y ≤ 255) (v1 : Value) (l1 : List Value) (k1 : ∀ x ∈ l1, ∃ y : Int, x = .int .u8 y ∧ 0 ≤ y ∧ y ≤ 255) (w : World) (m : Int) (hm : w.cell? ⟨5, 0, none⟩ = some (.int .i64 m)) (r0 : RdV (· < w.heap.size) w v0 l0) (r1 : RdV (· < w.heap.size) w v1 l1) (hv : Vars w) :
    Calls Tryd.prog 4 #[v0, v1] w fun e w' => e = .returned (.bool true) ∧ Below w.heap.size w w' := by
  have HR0 := Lib.hid r0
  have HR1 := Lib.hid r1
  have HK0 := Lib.hid k0
  have HK1 := Lib.hid k1
  have HVR := Lib.hid hv
  have HM := Lib.hid hm
  have HM0 := Lib.hid (World.block_lt_of_cell? w _ hm)
  obtain ⟨A0, n0, c0, rfl, hn0, -⟩ := r0
  obtain ⟨A1, n1, c1, rfl, hn1, -⟩ := r1
  clear k0 k1 hn0 hn1 hv hm
  have HL := Lib.hid (fun W => b10Long_any W A0 A1 n0 c0 n1 c1)
  by_cases hz : 1048576 < n0 ∨ 1048576 < n1
  · have hz' : (decide (1048576 < n0) || decide (1048576 < n1)) = true := by rcases hz with h | h <;> simp [h]
    rw [hz'] at HL
    clear hz hz'
    go_enter Tryd.func4, Tryd.ntmps4
    go_wp2_with fail
    refine (HL.out _).mono ?_; rintro e w1 ⟨rfl, q, rfl⟩
    go_wp2_with fail
    go_ret
    exact ⟨rfl, below_dnF (Below.refl _ _) q⟩
  · have hz' : (decide (1048576 < n0) || decide (1048576 < n1)) = false := by simp; omega
    rw [hz'] at HL
    clear hz hz'
    have x0b := b10N_bd l0 1 58 (by decide)
    have HA0 : Hid (∀ W, Below w.heap.size w W → Calls Tryd.prog 31 #[.slice A0 n0 c0, .int .i64 1, .int .i64 58] W fun e w' => e = .returned (.int .i64 (b10N l0 1 58)) ∧ W = w') := by
      show ∀ W, _
      intro W hb
      exact (b10At_any W _ l0 1 58 (by decide) (by decide) (HR0.out.keep hb) HK0.out).mono fun e w' ⟨he, _, hw⟩ => ⟨he, hw⟩
    generalize b10N l0 1 58 = x0 at *
    obtain ⟨M, hM⟩ : ∃ M : Nat, (M : Int) = 2 + x0 := ⟨(2 + x0).toNat, by omega⟩
    obtain ⟨y0, y0b, HA1⟩ : ∃ y0 : Int, (0 ≤ y0 ∧ y0 < (M : Int) - 1) ∧ Hid (∀ W, Below w.heap.size w W → Calls Tryd.prog 31 #[.slice A1 n1 c1, .int .i64 1, .int .i64 ((M : Int) - 1)] W fun e w' => e = .returned (.int .i64 y0) ∧ W = w') := by
      by_cases h1 : M = 2
      · refine ⟨0, by omega, ?_⟩
        show ∀ W, _
        intro W _
        rw [show (M : Int) - 1 = 1 by omega]
        exact b10At_one A1 n1 c1 W
      · have hb := b10N_bd l1 1 (M - 1) (by omega)
        refine ⟨b10N l1 1 (M - 1), by omega, ?_⟩
        show ∀ W, _
        intro W hW
        rw [show (M : Int) - 1 = ((M - 1 : Nat) : Int) by omega]
        exact (b10At_any W _ l1 1 (M - 1) (by omega) (by decide) (HR1.out.keep hW) HK1.out).mono fun e w' ⟨he, _, hw⟩ => ⟨he, hw⟩
    obtain ⟨K, hK⟩ : ∃ K : Nat, (K : Int) = 1 + y0 := ⟨(1 + y0).toNat, by omega⟩
    obtain ⟨g1, g2, g3, g4, g5, g6⟩ := bin_pascal (m := M) (k := K) (by omega) (by omega)
    have HB1 := Lib.hid (fun W => bin_impl (M : Int) (K : Int) W)
    have HB2 := Lib.hid (fun W => bin_impl ((M : Int) - 1) ((K : Int) - 1) W)
    have HB3 := Lib.hid (fun W => bin_impl ((M : Int) - 1) (K : Int) W)
    rw [g1] at HB1
    rw [g2] at HB2
    rw [g3] at HB3
    have wa : IntKind.i64.wrap (2 + x0) = (M : Int) := by rw [hM]; exact IntWalk.i64_in _ (by omega)
    obtain ⟨M1, hM1⟩ : ∃ z, (M : Int) - 1 = z := ⟨_, rfl⟩
    obtain ⟨K1, hK1⟩ : ∃ z, (K : Int) - 1 = z := ⟨_, rfl⟩
    have wb : IntKind.i64.wrap ((M : Int) - 1) = M1 := (IntWalk.i64_in _ (by omega)).trans hM1
    have wc : IntKind.i64.wrap (1 + y0) = (K : Int) := by rw [hK]; exact IntWalk.i64_in _ (by omega)
    have we : IntKind.i64.wrap ((K : Int) - 1) = K1 := (IntWalk.i64_in _ (by omega)).trans hK1
    have wf : IntKind.i64.wrap (binV ((M : Int) - 1) ((K : Int) - 1) + binV ((M : Int) - 1) K) = binV M K := by rw [← g4]; exact IntWalk.i64_in _ (by omega)
    rw [hM1] at HA1 HB2 HB3 wf
    rw [hK1] at HB2 wf
    clear x0b y0b hM hK g1 g2 g3 g4 g5 g6 hM1 hK1
    generalize binV M K = X1 at *
    generalize binV M1 K1 = X2 at *
    generalize binV M1 K = X3 at *
    generalize (M : Int) = M0 at *
    generalize (K : Int) = K0 at *
    go_enter Tryd.func4, Tryd.ntmps4
    go_wp2_with fail
    refine (HL.out _).mono ?_; rintro e w0 ⟨rfl, qq, rfl⟩
    have B0 : Hid (Below w.heap.size w (w.drewN qq)) := below_dnF (Below.refl _ _) qq
    go_wp2_with fail
    refine (b10Fraction_any _ _ _ (rdv_keepC HR0.out B0.out) HK0.out).mono ?_; rintro e w1 ⟨p, d, rfl, ⟨fa, pb, db⟩, hb1⟩
    have B1 := Lib.hid (B0.out.trans (hb1.mono B0.out.size))
    clear hb1 B0
    have V1 : Hid (Bxs w1 []) := fun x hx => by cases hx
    have U1 := Lib.hid (V1.out.cons p d 36)
    have C1 := Lib.hid (B1.out.alloc B1.out.size (.cells #[.int .i64 p, .int .i64 d] 36))
    go_wp2_with fail
    refine (b10Fraction_any _ _ _ (rdv_keepC HR1.out C1.out) HK1.out).mono ?_; rintro e w2 ⟨q, f, rfl, ⟨fb, qb, eb⟩, hb2⟩
    have V2 := Lib.hid (U1.out.keep hb2)
    have B2 := Lib.hid (C1.out.trans (hb2.mono C1.out.size))
    clear hb2
    have U2 := Lib.hid (V2.out.cons q f 36)
    have C2 := Lib.hid (B2.out.alloc B2.out.size (.cells #[.int .i64 q, .int .i64 f] 36))
    have pp := fi_parts fa
    have qp := fi_parts fb
    obtain ⟨a1, a2, -, a4, a5⟩ := ag_small fa fb 100 (by omega) pb db qb eb
    obtain ⟨b1, b2, b3⟩ := sub_back fa fb pb db qb eb
    obtain ⟨d1, d2, d3, d4⟩ := diff_sign fa fb pb db qb eb
    obtain ⟨m1, m2, -, m4, m5⟩ := ml_small fa fb 100 (by omega) pb db qb eb
    obtain ⟨s1, s2, s3⟩ := sum_two fa fb pb db qb eb
    obtain ⟨h1, h2⟩ := mk_back fa pb db
    have HADD := Lib.hid (fun W => add_impl p d q f W (by omega) (by omega) (by omega) (by omega))
    rw [a1] at HADD
    have HSUB := Lib.hid (fun W => sub_impl (agN p q d f) (agD p q d f) q f W (by omega) (by omega) (by omega) (by omega))
    rw [b1, b2, b3] at HSUB
    have HMUL := Lib.hid (fun W => mul_impl p d q f W (by omega) (by omega) (by omega) (by omega))
    rw [m1] at HMUL
    have HDIF := Lib.hid (fun W => sub_impl p d q f W (by omega) (by omega) (by omega) (by omega))
    rw [d1] at HDIF
    have HCMP := Lib.hid (fun W => cmp_impl p d q f W (by omega) (by omega) (by omega) (by omega))
    rw [d2] at HCMP
    have HTXT := Lib.hid (fun W h => fractionText_impl p d W (by omega) (by omega) h)
    rw [fa] at HTXT
    have HRD : Hid (∀ W : World, W.cell? ⟨5, 0, none⟩ = some (.int .i64 m) → Vars W → Calls Tryd.prog 27 #[.string (fTV p d)] W fun e w' => e = .returned (.tuple #[.agg #[.int .i64 p, .int .i64 d], .bool true]) ∧ Below W.heap.size W w') := by
      show ∀ W : World, _
      intro W hm hv
      have := fread_impl (fTV p d) (fTV_size fa) m W hm hv
      rw [read_back fa] at this
      exact this
    have HSUM : Hid (∀ (W : World) (t : TypeId) (b c : Nat), b = W.heap.size → Calls Tryd.prog 28 #[.slice (some ⟨b, 0, none⟩) 2 c] (W.alloc (.cells #[.int .i64 p, .int .i64 d, .int .i64 q, .int .i64 f] t)) fun e w' => e = .returned (.tuple #[.agg #[.int .i64 (agN p q d f), .int .i64 (agD p q d f)], .bool true]) ∧ Below (W.alloc (.cells #[.int .i64 p, .int .i64 d, .int .i64 q, .int .i64 f] t)).heap.size (W.alloc (.cells #[.int .i64 p, .int .i64 d, .int .i64 q, .int .i64 f] t)) w') := by
      show ∀ (W : World), _
      intro W t b c hb
      subst hb
      have := sum_impl _ _ _ (rdF_two W t p d q f c) (by simp) (by intro x hx; simp at hx; rcases hx with rfl | rfl <;> dsimp only <;> omega)
      rw [s1, s2, s3] at this
      exact this
    have HVAL := Lib.hid (fun W => validFraction_impl (mlN p d q f) (mlD p d q f) W (by omega) (by omega))
    rw [m2] at HVAL
    have HDIV : Hid (∃ (z1 z2 : Int) (z3 : Bool), (z3 = (q != 0)) ∧ (z3 = true → z1 = p ∧ z2 = d) ∧ ∀ W, Calls Tryd.prog 30 #[.agg #[.int .i64 (mlN p d q f), .int .i64 (mlD p d q f)], .agg #[.int .i64 q, .int .i64 f]] W fun e w' => e = .returned (.tuple #[.agg #[.int .i64 z1, .int .i64 z2], .bool z3]) ∧ Below W.heap.size W w') := by
      refine ⟨_, _, _, ?_, ?_, fun W => div_impl (mlN p d q f) (mlD p d q f) q f W (by omega) (by omega) (by omega) (by omega)⟩
      · by_cases h : q = 0
        · rw [(div_no (fun e => e.2 h)).2.2, h]; rfl
        · rw [(dv_back fa fb h pb db qb eb).2.2]; symm; simpa using h
      · intro hz
        by_cases h : q = 0
        · rw [(div_no (fun e => e.2 h)).2.2] at hz; cases hz
        · exact ⟨(dv_back fa fb h pb db qb eb).1, (dv_back fa fb h pb db qb eb).2.1⟩
    have HMK := Lib.hid (fun W => make_yes_impl (-6 * p) (-6 * d) W (by omega) (by omega) (by omega) (by omega) (by omega))
    rw [h1, h2] at HMK
    have w1q : IntKind.i64.wrap (-6 * p) = -6 * p := IntWalk.i64_in _ (by omega)
    have w2q : IntKind.i64.wrap (-6 * d) = -6 * d := IntWalk.i64_in _ (by omega)
    obtain ⟨bn, hbn⟩ : ∃ b, decide (agN p (-q) d f < 0) = b := ⟨_, rfl⟩
    obtain ⟨bz, hbz⟩ : ∃ b, (agN p (-q) d f == 0) = b := ⟨_, rfl⟩
    rw [hbn] at d3
    rw [hbz] at d4
    clear fa fb pb db qb eb pp qp a1 a2 a4 a5 b1 b2 b3 d1 d2 m1 m2 m4 m5 s1 s2 s3 h1 h2 HK0 HK1 HR0 HR1
    generalize agN p q d f = sn at *
    generalize agD p q d f = sd at *
    generalize agN p (-q) d f = xn at *
    generalize agD p (-q) d f = xd at *
    generalize mlN p d q f = un at *
    generalize mlD p d q f = ud at *
    generalize cpV p d q f = v at *
    generalize fTV p d = S at *
    obtain ⟨z1, z2, z3, hz3, hz12, HDV⟩ := HDIV.out
    have HDW := Lib.hid HDV
    clear HDV HDIV
    obtain ⟨s_1, t_1⟩ := U2.out.c (w1.heap.size) p d (by simp)
    obtain ⟨s_2, t_2⟩ := U2.out.c (w2.heap.size) q f (by simp)
    go_wp2_with fail
    refine (HADD.out _).mono ?_; rintro e w3 ⟨rfl, hb3⟩
    have V3 := Lib.hid (U2.out.keep hb3)
    have B3 := Lib.hid (C2.out.trans (hb3.mono C2.out.size))
    clear hb3 s_1 t_1 s_2 t_2
    clear V1 U1 B1 C1 V2 B2 U2 C2
    have U3 := Lib.hid (V3.out.cons sn sd 36)
    have C3 := Lib.hid (B3.out.alloc B3.out.size (.cells #[.int .i64 sn, .int .i64 sd] 36))
    obtain ⟨s_3, t_3⟩ := U3.out.c (w3.heap.size) sn sd (by simp)
    obtain ⟨s_2, t_2⟩ := U3.out.c (w2.heap.size) q f (by simp)
    go_wp2_with fail
    refine (HSUB.out _).mono ?_; rintro e w4 ⟨rfl, hb4⟩
    have V4 := Lib.hid (U3.out.keep hb4)
    have B4 := Lib.hid (C3.out.trans (hb4.mono C3.out.size))
    clear hb4 s_3 t_3 s_2 t_2
    clear V3 B3 U3 C3
    have U4 := Lib.hid (V4.out.cons p d 36)
    have C4 := Lib.hid (B4.out.alloc B4.out.size (.cells #[.int .i64 p, .int .i64 d] 36))
    obtain ⟨s_1, t_1⟩ := U4.out.c (w1.heap.size) p d (by simp)
    obtain ⟨s_2, t_2⟩ := U4.out.c (w2.heap.size) q f (by simp)
    go_wp2_with fail
    refine (HMUL.out _).mono ?_; rintro e w5 ⟨rfl, hb5⟩
    have V5 := Lib.hid (U4.out.keep hb5)
    have B5 := Lib.hid (C4.out.trans (hb5.mono C4.out.size))
    clear hb5 s_1 t_1 s_2 t_2
    clear V4 B4 U4 C4
    have U5 := Lib.hid (V5.out.cons un ud 36)
    have C5 := Lib.hid (B5.out.alloc B5.out.size (.cells #[.int .i64 un, .int .i64 ud] 36))
    obtain ⟨s_1, t_1⟩ := U5.out.c (w1.heap.size) p d (by simp)
    obtain ⟨s_2, t_2⟩ := U5.out.c (w2.heap.size) q f (by simp)
    go_wp2_with fail
    refine (HDIF.out _).mono ?_; rintro e w6 ⟨rfl, hb6⟩
    have V6 := Lib.hid (U5.out.keep hb6)
    have B6 := Lib.hid (C5.out.trans (hb6.mono C5.out.size))
    clear hb6 s_1 t_1 s_2 t_2
    clear V5 B5 U5 C5
    have U6 := Lib.hid (V6.out.cons xn xd 36)
    have C6 := Lib.hid (B6.out.alloc B6.out.size (.cells #[.int .i64 xn, .int .i64 xd] 36))
    obtain ⟨s_1, t_1⟩ := U6.out.c (w1.heap.size) p d (by simp)
    obtain ⟨s_2, t_2⟩ := U6.out.c (w2.heap.size) q f (by simp)
    go_wp2_with fail
    refine (HCMP.out _).mono ?_; rintro e w7 ⟨rfl, hb7⟩
    have V7 := Lib.hid (U6.out.keep hb7)
    have B7 := Lib.hid (C6.out.trans (hb7.mono C6.out.size))
    clear hb7 s_1 t_1 s_2 t_2
    clear V6 B6 U6 C6
    have U7 := Lib.hid V7.out
    have C7 := Lib.hid B7.out
    obtain ⟨s_1, t_1⟩ := U7.out.c (w1.heap.size) p d (by simp)
    go_wp2_with fail
    refine (HTXT.out _ (HVR.out.keep C7.out).tab).mono ?_; rintro e w8 ⟨rfl, hb8⟩
    have V8 := Lib.hid (U7.out.keep hb8)
    have B8 := Lib.hid (C7.out.trans (hb8.mono C7.out.size))
    clear hb8 s_1 t_1
    clear V7 B7 U7 C7
    have U8 := Lib.hid V8.out
    have C8 := Lib.hid B8.out
    go_wp2_with fail
    refine (HRD.out _ ((C8.out.cell HM0.out).trans HM.out) (HVR.out.keep C8.out)).mono ?_; rintro e w9 ⟨rfl, hb9⟩
    have V9 := Lib.hid (U8.out.keep hb9)
    have B9 := Lib.hid (C8.out.trans (hb9.mono C8.out.size))
    clear hb9 
    clear V8 B8 U8 C8
    have U9 := Lib.hid (V9.out.cons p d 36)
    have C9 := Lib.hid (B9.out.alloc B9.out.size (.cells #[.int .i64 p, .int .i64 d] 36))
    obtain ⟨s_1, t_1⟩ := U9.out.c (w1.heap.size) p d (by simp)
    obtain ⟨s_2, t_2⟩ := U9.out.c (w2.heap.size) q f (by simp)
    go_wp2_with fail
    refine (HSUM.out _ _ _ _ (by simp)).mono ?_; rintro e w10 ⟨rfl, hb10⟩
    have V10 := Lib.hid ((U9.out.keep ((Below.refl _ _).alloc (Nat.le_refl _) _)).keep hb10)
    have B10 := Lib.hid ((C9.out.alloc C9.out.size _).trans (hb10.mono (C9.out.alloc C9.out.size _).size))
    clear hb10 s_1 t_1 s_2 t_2
    clear V9 B9 U9 C9
    have U10 := Lib.hid (V10.out.cons sn sd 36)
    have C10 := Lib.hid (B10.out.alloc B10.out.size (.cells #[.int .i64 sn, .int .i64 sd] 36))
    obtain ⟨s_4, t_4⟩ := U10.out.c (w4.heap.size) p d (by simp)
    obtain ⟨s_1, t_1⟩ := U10.out.c (w1.heap.size) p d (by simp)
    obtain ⟨s_9, t_9⟩ := U10.out.c (w9.heap.size) p d (by simp)
    obtain ⟨s_10, t_10⟩ := U10.out.c (w10.heap.size) sn sd (by simp)
    obtain ⟨s_3, t_3⟩ := U10.out.c (w3.heap.size) sn sd (by simp)
    obtain ⟨s_6, t_6⟩ := U10.out.c (w6.heap.size) xn xd (by simp)
    obtain ⟨s_5, t_5⟩ := U10.out.c (w5.heap.size) un ud (by simp)
    go_wp2_with fail
    refine (HVAL.out _).mono ?_; rintro e w11 ⟨rfl, hb11⟩
    have V11 := Lib.hid (U10.out.keep hb11)
    have B11 := Lib.hid (C10.out.trans (hb11.mono C10.out.size))
    clear hb11 s_4 t_4 s_1 t_1 s_9 t_9 s_10 t_10 s_3 t_3 s_6 t_6 s_5 t_5
    clear V10 B10 U10 C10
    have U11 := Lib.hid V11.out
    have C11 := Lib.hid B11.out
    obtain ⟨s_5, t_5⟩ := U11.out.c (w5.heap.size) un ud (by simp)
    obtain ⟨s_2, t_2⟩ := U11.out.c (w2.heap.size) q f (by simp)
    go_wp2_with fail
    refine (HDW.out _).mono ?_; rintro e w12 ⟨rfl, hb12⟩
    have V12 := Lib.hid (U11.out.keep hb12)
    have B12 := Lib.hid (C11.out.trans (hb12.mono C11.out.size))
    clear hb12 s_5 t_5 s_2 t_2
    clear V11 B11 U11 C11
    have U12 := Lib.hid (V12.out.cons z1 z2 36)
    have C12 := Lib.hid (B12.out.alloc B12.out.size (.cells #[.int .i64 z1, .int .i64 z2] 36))
    cases z3
    · have hq : (q != 0) = false := hz3.symm
      clear hz3 hz12
      obtain ⟨s_1, t_1⟩ := U12.out.c (w1.heap.size) p d (by simp)
      obtain ⟨s_2, t_2⟩ := U12.out.c (w2.heap.size) q f (by simp)
      obtain ⟨s_12, t_12⟩ := U12.out.c (w12.heap.size) z1 z2 (by simp)
      go_wp2_with fail
      refine (HA0.out _ C12.out).mono ?_; rintro e w' ⟨rfl, rfl⟩
      go_wp2_with fail
      refine (HA1.out _ C12.out).mono ?_; rintro e w' ⟨rfl, rfl⟩
      clear s_1 t_1 s_2 t_2 s_12 t_12
      go_wp2_with fail
      refine (HB1.out _).mono ?_; rintro e w13 ⟨rfl, hb13⟩
      have V13 := Lib.hid (U12.out.keep hb13)
      have B13 := Lib.hid (C12.out.trans (hb13.mono C12.out.size))
      clear hb13
      clear V12 B12 U12 C12
      have U13 := Lib.hid V13.out
      have C13 := Lib.hid B13.out
      go_wp2_with fail
      refine (HB2.out _).mono ?_; rintro e w14 ⟨rfl, hb14⟩
      have V14 := Lib.hid (U13.out.keep hb14)
      have B14 := Lib.hid (C13.out.trans (hb14.mono C13.out.size))
      clear hb14
      clear V13 B13 U13 C13
      have U14 := Lib.hid V14.out
      have C14 := Lib.hid B14.out
      go_wp2_with fail
      refine (HB3.out _).mono ?_; rintro e w15 ⟨rfl, hb15⟩
      have V15 := Lib.hid (U14.out.keep hb15)
      have B15 := Lib.hid (C14.out.trans (hb15.mono C14.out.size))
      clear hb15
      clear V14 B14 U14 C14
      have U15 := Lib.hid V15.out
      have C15 := Lib.hid B15.out
      obtain ⟨s_1, t_1⟩ := U15.out.c (w1.heap.size) p d (by simp)
      go_wp2_with fail
      refine (HMK.out _).mono ?_; rintro e w16 ⟨rfl, hb16⟩
      have V16 := Lib.hid (U15.out.keep hb16)
      have B16 := Lib.hid (C15.out.trans (hb16.mono C15.out.size))
      clear hb16 s_1 t_1
      clear V15 B15 U15 C15
      have U16 := Lib.hid (V16.out.cons p d 36)
      have C16 := Lib.hid (B16.out.alloc B16.out.size (.cells #[.int .i64 p, .int .i64 d] 36))
      obtain ⟨s_1, t_1⟩ := U16.out.c (w1.heap.size) p d (by simp)
      obtain ⟨s_16, t_16⟩ := U16.out.c (w16.heap.size) p d (by simp)
      go_wp2_with fail
      go_ret
      exact ⟨rfl, C16.out⟩
    · have hq : (q != 0) = true := hz3.symm
      have e1 := (hz12 rfl).1.symm
      have e2 := (hz12 rfl).2.symm
      clear hz3 hz12
      subst e1 e2
      obtain ⟨s_1, t_1⟩ := U12.out.c (w1.heap.size) p d (by simp)
      obtain ⟨s_2, t_2⟩ := U12.out.c (w2.heap.size) q f (by simp)
      obtain ⟨s_12, t_12⟩ := U12.out.c (w12.heap.size) p d (by simp)
      go_wp2_with fail
      refine (HA0.out _ C12.out).mono ?_; rintro e w' ⟨rfl, rfl⟩
      go_wp2_with fail
      refine (HA1.out _ C12.out).mono ?_; rintro e w' ⟨rfl, rfl⟩
      clear s_1 t_1 s_2 t_2 s_12 t_12
      go_wp2_with fail
      refine (HB1.out _).mono ?_; rintro e w13 ⟨rfl, hb13⟩
      have V13 := Lib.hid (U12.out.keep hb13)
      have B13 := Lib.hid (C12.out.trans (hb13.mono C12.out.size))
      clear hb13
      clear V12 B12 U12 C12
      have U13 := Lib.hid V13.out
      have C13 := Lib.hid B13.out
      go_wp2_with fail
      refine (HB2.out _).mono ?_; rintro e w14 ⟨rfl, hb14⟩
      have V14 := Lib.hid (U13.out.keep hb14)
      have B14 := Lib.hid (C13.out.trans (hb14.mono C13.out.size))
      clear hb14
      clear V13 B13 U13 C13
      have U14 := Lib.hid V14.out
      have C14 := Lib.hid B14.out
      go_wp2_with fail
      refine (HB3.out _).mono ?_; rintro e w15 ⟨rfl, hb15⟩
      have V15 := Lib.hid (U14.out.keep hb15)
      have B15 := Lib.hid (C14.out.trans (hb15.mono C14.out.size))
      clear hb15
      clear V14 B14 U14 C14
      have U15 := Lib.hid V15.out
      have C15 := Lib.hid B15.out
      obtain ⟨s_1, t_1⟩ := U15.out.c (w1.heap.size) p d (by simp)
      go_wp2_with fail
      refine (HMK.out _).mono ?_; rintro e w16 ⟨rfl, hb16⟩
      have V16 := Lib.hid (U15.out.keep hb16)
      have B16 := Lib.hid (C15.out.trans (hb16.mono C15.out.size))
      clear hb16 s_1 t_1
      clear V15 B15 U15 C15
      have U16 := Lib.hid (V16.out.cons p d 36)
      have C16 := Lib.hid (B16.out.alloc B16.out.size (.cells #[.int .i64 p, .int .i64 d] 36))
      obtain ⟨s_1, t_1⟩ := U16.out.c (w1.heap.size) p d (by simp)
      obtain ⟨s_16, t_16⟩ := U16.out.c (w16.heap.size) p d (by simp)
      go_wp2_with fail
      go_ret
      exact ⟨rfl, C16.out⟩
end Go.Proofs.YtnpigefbdadjfaaDoor

namespace Go.Proofs.YtnpigefbdadjfaaDoor.fnFractions
open Go.ChangeShapes Go.WideShapes Go.ChangeAt Go.RowKit
open Go.ChangeMaps (open_string shut_string)
set_option linter.unusedVariables false

theorem laid : laidOutB Tryd.prog = true := by kernel_rfl
theorem own : ownKnob Tryd.prog.godebug = none := by kernel_rfl
/-- What the row lists. -/
def laidL : List (String × DataW Unit) := [("math/bits.deBruijn32tab", Rows.laid_math_bits_deBruijn32tab), ("math/bits.deBruijn64tab", Rows.laid_math_bits_deBruijn64tab), ("internal/strconv.uint64pow10", Rows.laid_internal_strconv_uint64pow10), ("strconv.ErrRange", Rows.laid_strconv_ErrRange), ("strconv.ErrSyntax", Rows.laid_strconv_ErrSyntax)]
theorem door_met (os : Os) (args : Array Value) : laidMetH Tryd.prog laidL ((World.doorLaid Tryd.prog 400 os).forCall (fun _ _ => 0) ⟨#[], args, []⟩).memory :=
  laidMetH_of_parts3 (fuel := 8) (laidMet_of_run' 8 (by kernel_rfl) (by kernel_rfl)) (by kernel_rfl) (by kernel_rfl)
theorem cellsE : Tryd.prog.cellsOf 221 = 1 := by kernel_rfl
theorem cellsS : Tryd.prog.cellsOf 9 = 1 := by kernel_rfl
theorem star : "*" ++ "errors.errorString" = "*errors.errorString" := by decide
theorem rowE (u : TypeId) (h : Tryd.prog.typeName? 3 u = some "*errors.errorString") : u = 219 :=
  typeName_ptr_named (nm := "errors.errorString") (by rw [star]; kernel_rfl) (by kernel_rfl) (by decide) u (by rw [star]; exact h)
theorem vars_of {W : World} (h : laidMetH Tryd.prog laidL W) : Vars W := by
  rw [MakeChecks.laidMetH_plain _ _ _ (by kernel_rfl)] at h
  have h3 : laidMet Tryd.prog (("internal/strconv.uint64pow10", Lib.tabData .u64 Lib.pow10Tab) :: [("strconv.ErrRange", Rows.laid_strconv_ErrRange), ("strconv.ErrSyntax", Rows.laid_strconv_ErrSyntax)]) W := h.tail.tail
  obtain ⟨a, _, ha, _⟩ := laid_sentinel (g := 10) (ti := 82) (f := _) h3.tail (by kernel_rfl) (by kernel_rfl) Tryd.underlying82 rowE Tryd.underlying219 Tryd.underlying221 rfl rfl Tryd.underlying9 cellsE cellsS
  obtain ⟨b, _, hb, _⟩ := laid_sentinel (g := 9) (ti := 82) (f := _) h3.tail.tail (by kernel_rfl) (by kernel_rfl) Tryd.underlying82 rowE Tryd.underlying219 Tryd.underlying221 rfl rfl Tryd.underlying9 cellsE cellsS
  refine ⟨?_, ⟨_, _, hb⟩, ⟨_, _, ha⟩⟩
  exact Lib.tabIs_of_head (g := 8) (by kernel_rfl) (show (Tryd.prog.globals[8]?).map (·.type) = some 209 by kernel_rfl) Tryd.underlying209 Tryd.underlying98 (by kernel_rfl) (by kernel_rfl) h3
/-- A wrap that hands on a fact of the world and its shape. -/
theorem both_wrap {H : Type} {enc : TypeId × Value → H} {a : Assume} {C : Checked} {os : Os} {f : FuncId} {fn : Func} {s : ChangeSpec} {conds : List PathCond} {apart fresh handsOn again : Bool} {X : World → Array Value → Prop}
    (hX : ∀ (w w' : World) (args : Array Value), w.heap = w'.heap → X w args → X w' args)
    (own : ownKnob C.prog.godebug = none) (started : os.Started) (noInit : C.prog.inits.idxOf? f = none) (hfn : C.prog.funcs[f]? = some fn)
    (witness : ∃ (w : World) (tape : Tape) (i : Input), w.os = os ∧ (w.forCall tape i).Shaped C.prog ∧ i.vars = [] ∧ Input.okWide C.prog (w.forCall tape i) .any w.heap.size f i ∧
      ((s.pre enc C.prog fn conds apart (w.forCall tape i).memory i.args ∧ X (w.forCall tape i).memory i.args) ∧ sizedMet enc C.prog fn (OpenSpec.ofChange s) apart (w.forCall tape i).memory i.args) ∧ a.holds C.prog (lone (Frame.enter C.prog f i.args .normal) [] (w.forCall tape i)))
    (contract : ∀ (W : World) (base : Nat) (args : Array Value) (ds gs : List (DataW H)) (before : List MemPlace),
      (∀ (j : Nat) t v, fn.params[j]? = some t → args[j]? = some v → Value.okWide C.prog W .any base t v) →
      DataW.Whole enc C.prog fn.params.toList s.vars apart W args.toList ds gs before →
      X W args → W.ShapedOpen C.prog →
      a.holds C.prog (lone (Frame.enter C.prog f args .normal) [] W) →
      Calls C.prog f args W fun e W' => ∃ v, e = .returned v ∧ s.post enc C.prog fn apart fresh handsOn again W args v W') :
    ReturnsInHanded a C os f .any (fun w args => (s.pre enc C.prog fn conds apart w args ∧ X w args) ∧ sizedMet enc C.prog fn (OpenSpec.ofChange s) apart w args) (s.post enc C.prog fn apart fresh handsOn again) := by
  refine returnsInHanded_of_calls own started noInit witness ?_
  intro w tape i _ hsh _ hok hpre hholds
  obtain ⟨_, _, _, fn', hfn', _, _, _, _, hval⟩ := hok
  have e : fn' = fn := Option.some.inj (hfn'.symm.trans hfn)
  subst e
  obtain ⟨⟨⟨ds, gs, before, hw, hc⟩, hx⟩, hz⟩ := hpre
  exact (contract (w.forCall tape i) w.heap.size i.args ds gs before hval (DataW.Whole.of_heap (w' := w.forCall tape i) (by rfl) hw) (hX _ _ _ (by rfl) hx) hsh hholds).mono fun e W' ⟨v, he, hp⟩ => by
    subst he
    exact ChangeSpec.post_blind hp

set_option maxRecDepth 100000 in
theorem lifted (os : Os) (started : os.Started) (H : Type) (enc : TypeId × Value → H) :
    ReturnsInHanded {} Tryd.checked os 4 .any (fun w args => (Rows.fnFractionsSpec.pre enc Tryd.prog Tryd.f4 [] false w args ∧ laidMetH Tryd.prog laidL w) ∧ sizedMet enc Tryd.prog Tryd.f4 (OpenSpec.ofChange Rows.fnFractionsSpec) false w args)
      (Rows.fnFractionsSpec.post enc Tryd.prog Tryd.f4 false true false false) := by
  refine both_wrap (C := Tryd.checked) (X := fun w _ => laidMetH Tryd.prog laidL w) (fun _ _ _ hh h => h.of_heap hh) own started (by kernel_rfl) Tryd.func4
    (ChangeSpec.witness_shaped (enc := enc) (C := Tryd.checked) (os := os) (X := fun w _ => laidMetH Tryd.prog laidL w) false (World.doorLaid Tryd.prog 400 os) #[.slice none 0 0, .slice none 0 0] 8 rfl (World.shaped_of_RefB (by kernel_rfl) (by kernel_rfl)) (by kernel_rfl) (by kernel_rfl) (by kernel_rfl) (door_met os _)) ?_
  intro W base args ds gs before hval0 hW hL hsh _
  obtain ⟨mm, hmm⟩ : ∃ mm : Int, W.cell? ⟨5, 0, none⟩ = some (.int .i64 mm) := by first | exact Tryd.laysM145.s1_3 W hsh | exact Tryd.laysM145.s1_3 W hsh
  have hval : ∀ (j : Nat) t v, Tryd.f4.params[j]? = some t → args[j]? = some v → Value.okWide Tryd.prog W .any base t v := hval0
  have hW' := hW
  obtain ⟨p, q, hA0, hV, rfl, hfz, hnd⟩ := hW
  have hA : DataW.TrodAll enc Tryd.prog W 0 (fun _ => true) true Tryd.f4.params.toList args.toList ds p := hA0
  rw [Tryd.params4] at hA hval
  obtain ⟨v0, vs0, d0, ds0, p0, q0, hargs, rfl, rfl, h0, r0⟩ := trodAll_cons hA
  obtain ⟨v1, vs1, d1, ds1, p1, q1, rfl, rfl, rfl, h1, r1⟩ := trodAll_cons r0
  obtain ⟨rfl, rfl, rfl⟩ := trodAll_nil r1
  obtain rfl : args = #[v0, v1] := by cases args; simp_all
  obtain ⟨rfl, rfl⟩ := trodVars_none hV
  have kk0 := h0
  obtain ⟨ao0, len0, cap0, rfl⟩ := okWide_slice Tryd.underlying22 (hval 0 22 v0 rfl rfl)
  obtain ⟨fuel0, hf0⟩ := h0
  obtain ⟨l0, R0, F0⟩ := bytes_open (v := .slice ao0 len0 cap0) (by simpa [Value.cells] using hf0)
  have kk1 := h1
  obtain ⟨ao1, len1, cap1, rfl⟩ := okWide_slice Tryd.underlying22 (hval 1 22 v1 rfl rfl)
  obtain ⟨fuel1, hf1⟩ := h1
  obtain ⟨l1, R1, F1⟩ := bytes_open (v := .slice ao1 len1 cap1) (by simpa [Value.cells] using hf1)
  have htab := vars_of hL
  clear hA0 hval0
  refine (law_FnFractions _ l0 F0 _ l1 F1 W mm hmm R0 R1 htab).mono fun e W' ⟨he, bel⟩ => ?_
  subst he
  exact ⟨_, rfl, _, _, _, [], _, [], hW', trodAll_mk1 (shut_bool Tryd.underlying4 _), (trodAll_cons_mk (Go.RowKit.Below.trod laid (by kernel_rfl) (of_decide_eq_true (by kernel_rfl)) kk0 bel (fun x hx => DataW.trod_lt _ _ _ _ kk0.choose_spec x hx)) (trodAll_cons_mk (Go.RowKit.Below.trod laid (by kernel_rfl) (of_decide_eq_true (by kernel_rfl)) kk1 bel (fun x hx => DataW.trod_lt _ _ _ _ kk1.choose_spec x hx)) trodAll_mk0)), rfl, bel.frame _, fun h => by cases h⟩

theorem row_holds : Rows.FnFractionsSaid :=
  OpenClaim.holds_of_wide 4 Tryd.f4 rfl rfl rfl rfl rfl rfl rfl ⟨rfl, rfl, rfl, rfl, rfl⟩ rfl rfl rfl rfl rfl (by kernel_rfl) Tryd.func4 (by kernel_rfl)
    (of_decide_eq_true (by kernel_rfl)) (by unfold Func.isWrapper; first | (rw [if_pos (by decide +kernel)]; kernel_rfl) | (rw [if_neg (by decide +kernel)]; exact ⟨rfl, rfl⟩))
    (fun os started H enc _ => lifted os started H enc)

/-- The statement: the tied card. -/
theorem proved : Rows.FnFractionsCardSaid :=
  Claim7.holds_tied_plain_at .later [] [.data, .data, .data, .sentinel, .sentinel] true (true, Rows.fnFractionsCard.stood.harness.2) Rows.fnFractionsCard.stood.looks
    row_holds (fun _ h => by cases h) (by kernel_rfl) (fun _ h => by cases h) fnFractions_row_tie rfl ⟨rfl, rfl⟩ (by kernel_rfl) rfl
    (fun f fn hf hfn => by
      obtain rfl : f = 4 := Option.some.inj ((show Tryd.prog.funcNamed "loop.example/g01142/laws.FnFractions" = some 4 by kernel_rfl).symm.trans hf) |>.symm
      obtain rfl : fn = Tryd.f4 := (Option.some.inj (Tryd.func4.symm.trans hfn)).symm
      exact ⟨by kernel_rfl, fun j t ht => by
        rw [Tryd.params4] at ht
        rcases j with _ | _ | j
        · obtain rfl : t = 22 := by simpa using ht.symm
          exact (show Tryd.prog.wantsStandIn 22 = false by kernel_rfl)
        · obtain rfl : t = 22 := by simpa using ht.symm
          exact (show Tryd.prog.wantsStandIn 22 = false by kernel_rfl)
        · simp at ht⟩)
    (by kernel_rfl)
#print axioms proved
end Go.Proofs.YtnpigefbdadjfaaDoor.fnFractions

