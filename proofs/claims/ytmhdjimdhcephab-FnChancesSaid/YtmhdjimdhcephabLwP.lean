/- Plain: powers of chances in lowest terms: what is in range at the end is so at all products before. -/
import Derived.Test.YtmhdjimdhcephabPtP
namespace Go.Proofs.Ytmhdjimdhcephab
open Go Go.RowKit
set_option linter.unusedVariables false

/-- P over Q in lowest terms is in range. -/
def lwK (P Q : Nat) : Bool := decide (P / Nat.gcd P Q ≤ 1000000000000000000 ∧ Q / Nat.gcd P Q ≤ 1000000000000000000)
/-- Cross-cancelled products are in lowest terms. -/
theorem lw_step {a b q d P Q : Nat} (hc : Nat.Coprime a b) (hb : 0 < b) (hq : Nat.Coprime q d) (hd : 0 < d) (hQ : 0 < Q) (h : a * Q = P * b) :
    (a / Nat.gcd a d) * (q / Nat.gcd q b) = P * q / Nat.gcd (P * q) (Q * d) ∧ (d / Nat.gcd a d) * (b / Nat.gcd q b) = Q * d / Nat.gcd (P * q) (Q * d) := by
  have g1 : 0 < Nat.gcd a d := Nat.gcd_pos_of_pos_right _ hd
  have g2 : 0 < Nat.gcd q b := Nat.gcd_pos_of_pos_right _ hb
  have c1 : Nat.Coprime (a / Nat.gcd a d) (d / Nat.gcd a d) := Nat.coprime_div_gcd_div_gcd g1
  have c2 : Nat.Coprime (q / Nat.gcd q b) (b / Nat.gcd q b) := Nat.coprime_div_gcd_div_gcd g2
  have c3 : Nat.Coprime (a / Nat.gcd a d) (b / Nat.gcd q b) := cop_div hc (Nat.gcd_dvd_left a d) (Nat.gcd_dvd_right q b)
  have c4 : Nat.Coprime (q / Nat.gcd q b) (d / Nat.gcd a d) := cop_div hq (Nat.gcd_dvd_left q b) (Nat.gcd_dvd_right a d)
  have e1 := Nat.div_mul_cancel (Nat.gcd_dvd_left a d)
  have e2 := Nat.div_mul_cancel (Nat.gcd_dvd_right a d)
  have e3 := Nat.div_mul_cancel (Nat.gcd_dvd_left q b)
  have e4 := Nat.div_mul_cancel (Nat.gcd_dvd_right q b)
  have p1 : 0 < d / Nat.gcd a d := Nat.div_pos (Nat.le_of_dvd hd (Nat.gcd_dvd_right a d)) g1
  have p2 : 0 < b / Nat.gcd q b := Nat.div_pos (Nat.le_of_dvd hb (Nat.gcd_dvd_right q b)) g2
  have key : (a / Nat.gcd a d) * Nat.gcd a d * Q = P * ((b / Nat.gcd q b) * Nat.gcd q b) := by rw [e1, e4]; exact h
  have k2 : (a / Nat.gcd a d) * (q / Nat.gcd q b) * (Q * ((d / Nat.gcd a d) * Nat.gcd a d)) = P * ((q / Nat.gcd q b) * Nat.gcd q b) * ((d / Nat.gcd a d) * (b / Nat.gcd q b)) := by
    generalize a / Nat.gcd a d = A at *
    generalize d / Nat.gcd a d = D at *
    generalize q / Nat.gcd q b = X at *
    generalize b / Nat.gcd q b = B at *
    generalize Nat.gcd a d = g at *
    generalize Nat.gcd q b = r at *
    have : (A * g * Q) * (X * D) = (P * (B * r)) * (X * D) := by rw [key]
    calc A * X * (Q * (D * g)) = (A * g * Q) * (X * D) := by ac_rfl
      _ = (P * (B * r)) * (X * D) := this
      _ = P * (X * r) * (D * B) := by ac_rfl
  rw [e2, e3] at k2
  exact low_terms (Nat.Coprime.mul_left (Nat.Coprime.mul_right c1 c3) (Nat.Coprime.mul_right c4 c2)) (Nat.mul_pos p1 p2) (Nat.mul_pos hQ hd) k2
/-- Lowest terms: coprime, and the ratio. -/
theorem lw_red (P Q : Nat) (hQ : 0 < Q) : Nat.Coprime (P / Nat.gcd P Q) (Q / Nat.gcd P Q) ∧ 0 < Q / Nat.gcd P Q ∧ (P / Nat.gcd P Q) * Q = P * (Q / Nat.gcd P Q) := by
  have g : 0 < Nat.gcd P Q := Nat.gcd_pos_of_pos_right _ hQ
  refine ⟨Nat.coprime_div_gcd_div_gcd g, Nat.div_pos (Nat.le_of_dvd hQ (Nat.gcd_dvd_right P Q)) g, ?_⟩
  have e1 := Nat.div_mul_cancel (Nat.gcd_dvd_left P Q)
  have e2 := Nat.div_mul_cancel (Nat.gcd_dvd_right P Q)
  calc P / Nat.gcd P Q * Q = P / Nat.gcd P Q * (Q / Nat.gcd P Q * Nat.gcd P Q) := by rw [e2]
    _ = P / Nat.gcd P Q * Nat.gcd P Q * (Q / Nat.gcd P Q) := by ac_rfl
    _ = P * (Q / Nat.gcd P Q) := by rw [e1]
/-- A greater power of the denominator stays greater. -/
theorem lw_den {n Q d : Nat} (hn : 0 < n) (hd : 0 < d) : Q / Nat.gcd n Q ≤ Q * d / Nat.gcd n (Q * d) := by
  have h1 : Nat.gcd n (Q * d) ∣ Nat.gcd (n * d) (Q * d) := Nat.dvd_gcd (Nat.dvd_trans (Nat.gcd_dvd_left _ _) ⟨d, rfl⟩) (Nat.gcd_dvd_right _ _)
  rw [Nat.gcd_mul_right] at h1
  have h2 : Nat.gcd n (Q * d) ≤ Nat.gcd n Q * d := Nat.le_of_dvd (Nat.mul_pos (Nat.gcd_pos_of_pos_left _ hn) hd) h1
  calc Q / Nat.gcd n Q = Q * d / (Nat.gcd n Q * d) := (Nat.mul_div_mul_right _ _ hd).symm
    _ ≤ Q * d / Nat.gcd n (Q * d) := Nat.div_le_div_left h2 (Nat.gcd_pos_of_pos_left _ hn)
/-- The gcd of the chance of success is that of the number of stations. -/
theorem lw_gcd {n X Q : Nat} (hc : Nat.Coprime X Q) : Nat.gcd (n * X) Q = Nat.gcd n Q := Nat.Coprime.gcd_mul_right_cancel n hc
theorem four_mul (x y : Nat) : 4 * (x * y) ≤ (x + y) * (x + y) := by
  rcases Nat.le_total x y with h | h
  · obtain ⟨t, rfl⟩ := Nat.exists_eq_add_of_le h
    have e : (x + (x + t)) * (x + (x + t)) = 4 * (x * (x + t)) + t * t := by
      simp only [Nat.mul_add, Nat.add_mul]; have := Nat.mul_comm x t; omega
    omega
  · obtain ⟨t, rfl⟩ := Nat.exists_eq_add_of_le h
    have e : (y + t + y) * (y + t + y) = 4 * ((y + t) * y) + t * t := by
      simp only [Nat.mul_add, Nat.add_mul]; have := Nat.mul_comm y t; omega
    omega
/-- Where a numerator in between is too great, the next denominator is. -/
theorem lw_big {n p q d k : Nat} (hn : n ≤ 12) (hd : d = p + q) (hk : k + 2 ≤ n) (h : 1000000000000000000 < n * (p * q ^ k)) : 12 * 1000000000000000000 < d ^ (k + 2) := by
  have h12 : 1000000000000000000 < 12 * (p * q ^ k) := Nat.lt_of_lt_of_le h (Nat.mul_le_mul_right _ hn)
  cases k with
  | zero =>
    rw [Nat.pow_zero, Nat.mul_one] at h12
    have : d ^ (0 + 2) = d * d := by rw [Nat.zero_add, Nat.pow_two]
    rw [this]
    have h1 : 144 ≤ d := by omega
    have h2 : 144 * d ≤ d * d := Nat.mul_le_mul_right _ h1
    omega
  | succ k =>
    have h4 : 4 * (p * q ^ (k + 1)) ≤ d ^ (k + 2) := by
      have e1 : q ^ k ≤ d ^ k := Nat.pow_le_pow_left (by omega) k
      have e2 : 4 * (p * q) ≤ d * d := by rw [hd]; exact four_mul p q
      calc 4 * (p * q ^ (k + 1)) = 4 * (p * q) * q ^ k := by rw [Nat.pow_succ]; ac_rfl
        _ ≤ d * d * d ^ k := Nat.mul_le_mul e2 e1
        _ = d ^ (k + 2) := by rw [Nat.pow_succ, Nat.pow_succ]; ac_rfl
    have h5 : 4 * 1000000000000000000 < 12 * d ^ (k + 2) := by omega
    have h6 : 40 ≤ d := by
      refine Nat.le_of_not_lt fun hh => ?_
      have e1 : d ^ (k + 2) ≤ 39 ^ (k + 2) := Nat.pow_le_pow_left (by omega) _
      have e2 : 39 ^ (k + 2) ≤ 39 ^ 11 := Nat.pow_le_pow_right (by decide) (by omega)
      have e3 : 39 ^ 11 = 317475837322472439 := by decide
      omega
    have h7 : d ^ (k + 1 + 2) = d ^ (k + 2) * d := by rw [show k + 1 + 2 = (k + 2) + 1 from rfl, Nat.pow_succ]
    have h8 : d ^ (k + 2) * 40 ≤ d ^ (k + 2) * d := Nat.mul_le_mul_left _ h6
    omega
/-- The chance that just one sends: the product behind k others in range if the last one is. -/
theorem lw_success {n p q d m : Nat} (hn1 : 1 ≤ n) (hn : n ≤ 12) (hd : d = p + q) (hd0 : 0 < d) (cp : Nat.Coprime p d) (cq : Nat.Coprime q d) (hm : m + 1 = n) (h : lwK (n * p * q ^ m) (d * d ^ m) = true) :
    ∀ k, k ≤ m → lwK (n * p * q ^ k) (d * d ^ k) = true := by
  have hg : ∀ k, Nat.gcd (n * p * q ^ k) (d * d ^ k) = Nat.gcd n (d * d ^ k) := fun k => by
    rw [Nat.mul_assoc]
    refine lw_gcd (Nat.Coprime.mul_left ?_ ?_)
    · exact Nat.Coprime.mul_right cp (Nat.Coprime.pow_right k cp)
    · have := Nat.Coprime.pow_left k cq
      exact Nat.Coprime.mul_right this (Nat.Coprime.pow_right k this)
  have mono : ∀ j k, (d * d ^ k) / Nat.gcd n (d * d ^ k) ≤ (d * d ^ (k + j)) / Nat.gcd n (d * d ^ (k + j)) := by
    intro j k
    induction j with
    | zero => exact Nat.le_refl _
    | succ j ih =>
      refine Nat.le_trans ih ?_
      have e : d * d ^ (k + (j + 1)) = d * d ^ (k + j) * d := by rw [show k + (j + 1) = (k + j) + 1 from rfl, Nat.pow_succ, Nat.mul_assoc]
      rw [e]
      exact lw_den (by omega) hd0
  unfold lwK at h ⊢
  have h0 := of_decide_eq_true h
  rw [hg] at h0
  intro k hk
  refine decide_eq_true ?_
  rw [hg]
  obtain ⟨j, hj⟩ := Nat.exists_eq_add_of_le hk
  have hD : (d * d ^ k) / Nat.gcd n (d * d ^ k) ≤ 1000000000000000000 := by
    have := mono j k
    rw [← hj] at this
    omega
  refine ⟨?_, hD⟩
  by_cases hkm : k = m
  · rw [hkm]; exact h0.1
  · refine Nat.le_of_not_lt fun hh => ?_
    have e1 : 1000000000000000000 < n * (p * q ^ k) := by
      rw [← Nat.mul_assoc]
      exact Nat.lt_of_lt_of_le hh (Nat.div_le_self _ _)
    have e2 := lw_big hn hd (by omega) e1
    have e3 := mono (m - (k + 1)) (k + 1)
    rw [show k + 1 + (m - (k + 1)) = m by omega] at e3
    have e4 : d * d ^ (k + 1) = d ^ (k + 2) := by rw [Nat.mul_comm, ← Nat.pow_succ]
    rw [e4] at e3
    have e5 := Nat.div_mul_cancel (Nat.gcd_dvd_right n (d ^ (k + 2)))
    have e6 : Nat.gcd n (d ^ (k + 2)) ≤ 12 := Nat.le_trans (Nat.le_of_dvd (by omega) (Nat.gcd_dvd_left _ _)) hn
    have e7 : d ^ (k + 2) ≤ d ^ (k + 2) / Nat.gcd n (d ^ (k + 2)) * 12 := by
      conv => lhs; rw [← e5]
      exact Nat.mul_le_mul_left _ e6
    omega
/-- The chance that nobody sends: likewise. -/
theorem lw_quiet {q d m : Nat} (hq : q ≤ d) (hd0 : 0 < d) (cq : Nat.Coprime q d) (h : lwK (q ^ m) (d ^ m) = true) :
    ∀ k, k ≤ m → lwK (q ^ k) (d ^ k) = true := by
  have hg : ∀ k, Nat.gcd (q ^ k) (d ^ k) = 1 := fun k => Nat.Coprime.pow k k cq
  unfold lwK at h ⊢
  have h0 := of_decide_eq_true h
  rw [hg, Nat.div_one, Nat.div_one] at h0
  intro k hk
  refine decide_eq_true ?_
  rw [hg, Nat.div_one, Nat.div_one]
  have e1 : d ^ k ≤ d ^ m := Nat.pow_le_pow_right hd0 hk
  have e2 : q ^ k ≤ d ^ k := Nat.pow_le_pow_left hq k
  omega
end Go.Proofs.Ytmhdjimdhcephab
