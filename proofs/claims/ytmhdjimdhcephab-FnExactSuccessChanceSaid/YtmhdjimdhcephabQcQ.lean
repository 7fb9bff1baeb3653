/- Plain: what the program's products of chances give is what the model's give. -/
import Derived.Test.YtmhdjimdhcephabScI
import Derived.Test.YtmhdjimdhcephabLwP
import Derived.Test.YtmhdjimdhcephabPtJ
namespace Go.Proofs.Ytmhdjimdhcephab
open Go Go.RowKit
set_option linter.unusedVariables false

/-- P over Q in lowest terms, where it is in range. -/
def lwS (P Q : Nat) : Int × Int × Bool := if lwK P Q then (((P / Nat.gcd P Q : Nat) : Int), ((Q / Nat.gcd P Q : Nat) : Int), true) else (0, 0, false)
theorem mkN_nat (a d : Nat) : mkN (a : Int) (d : Int) = ((a / Nat.gcd a d : Nat) : Int) := by
  unfold mkN
  rw [if_neg (by omega), Int.natAbs_natCast, Int.natAbs_natCast]
  rfl
theorem mkD_nat (a d : Nat) : mkD (a : Int) (d : Int) = ((d / Nat.gcd a d : Nat) : Int) := by
  unfold mkD
  rw [Int.natAbs_natCast, Int.natAbs_natCast]
  rfl
theorem fIs_nat (a b : Nat) : fIs (a : Int) (b : Int) = decide (1 ≤ b ∧ b ≤ 1000000000000000000 ∧ a ≤ 1000000000000000000 ∧ Nat.gcd a b = 1) := by
  unfold fIs
  rw [Int.natAbs_natCast, Int.natAbs_natCast]
  by_cases h : 1 ≤ b ∧ b ≤ 1000000000000000000 ∧ a ≤ 1000000000000000000 ∧ Nat.gcd a b = 1
  · rw [decide_eq_true h, decide_eq_true ⟨by omega, by omega, by omega, by omega, h.2.2.2⟩]
  · rw [decide_eq_false h, decide_eq_false (fun e => h ⟨by omega, by omega, by omega, e.2.2.2.2⟩)]
theorem ptB_nat (n : Nat) : ptB (n : Int) = decide (n ≤ 1000000000000000000) := by
  unfold ptB
  by_cases h : n ≤ 1000000000000000000
  · rw [decide_eq_true h, decide_eq_true ⟨by omega, by omega⟩]
  · rw [decide_eq_false h, decide_eq_false (fun e => h (by omega))]
theorem lwS_fIs {P Q : Nat} (hQ : 0 < Q) : fIs (lwS P Q).1 (lwS P Q).2.1 = (lwS P Q).2.2 := by
  unfold lwS
  cases h : lwK P Q
  · rfl
  · have h1 := of_decide_eq_true h
    obtain ⟨c, p, -⟩ := lw_red P Q hQ
    rw [if_pos rfl]
    dsimp only
    rw [fIs_nat]
    exact decide_eq_true ⟨p, h1.2, h1.1, c⟩
theorem ml_zero (q d : Int) : mlN 0 0 q d = 0 ∧ mlD 0 0 q d = 0 ∧ mlB 0 0 q d = false := by
  have h : ¬ mfOk 0 0 q d := fun e => by have := e.1; exact absurd this (by decide)
  unfold mlN mlD mlB
  rw [if_neg h, if_neg h, if_neg h]
  exact ⟨rfl, rfl, rfl⟩
theorem ml_low {P Q q d : Nat} (hQ : 0 < Q) (hv : lwK P Q = true) (hf : fIs (q : Int) (d : Int) = true) :
    mlN (lwS P Q).1 (lwS P Q).2.1 q d = (lwS (P * q) (Q * d)).1 ∧ mlD (lwS P Q).1 (lwS P Q).2.1 q d = (lwS (P * q) (Q * d)).2.1 ∧ mlB (lwS P Q).1 (lwS P Q).2.1 q d = (lwS (P * q) (Q * d)).2.2 := by
  obtain ⟨c, p, e⟩ := lw_red P Q hQ
  have hfi := lwS_fIs (P := P) (Q := Q) hQ
  have hq := hf
  rw [fIs_nat] at hq
  have hq := of_decide_eq_true hq
  obtain ⟨k1, k2⟩ := lw_step c p (show Nat.Coprime q d from hq.2.2.2) hq.1 hQ e
  have e1 : lwS P Q = (((P / Nat.gcd P Q : Nat) : Int), ((Q / Nat.gcd P Q : Nat) : Int), true) := by unfold lwS; rw [hv]; rfl
  rw [e1] at hfi ⊢
  dsimp only at hfi ⊢
  have hm : mfOk ((P / Nat.gcd P Q : Nat) : Int) ((Q / Nat.gcd P Q : Nat) : Int) (q : Int) (d : Int) := ⟨hfi, hf⟩
  generalize P / Nat.gcd P Q = a at *
  generalize Q / Nat.gcd P Q = b at *
  unfold mlN mlD mlB
  rw [if_pos hm, if_pos hm, if_pos hm, mkN_nat, mkD_nat, mkN_nat, mkD_nat, ← Int.natCast_mul, ← Int.natCast_mul, k1, k2]
  unfold foN foD lwS lwK
  rw [ptB_nat, ptB_nat]
  generalize P * q / Nat.gcd (P * q) (Q * d) = x at *
  generalize Q * d / Nat.gcd (P * q) (Q * d) = y at *
  by_cases h1 : x ≤ 1000000000000000000
  · by_cases h2 : y ≤ 1000000000000000000
    · simp [h1, h2]
    · simp [h1, h2]
  · simp [h1]
theorem tp_inv {P Q q d : Nat} (hQ : 0 < Q) (hf : fIs (q : Int) (d : Int) = true) : ∀ k, tpS (lwS P Q).1 (lwS P Q).2.1 q d k = lwS (P * q ^ k) (Q * d ^ k) ∨ tpS (lwS P Q).1 (lwS P Q).2.1 q d k = (0, 0, false)
  | 0 => by
    refine .inl ?_
    rw [tpS, lwS_fIs hQ, Nat.pow_zero, Nat.pow_zero, Nat.mul_one, Nat.mul_one]
  | k + 1 => by
    have hd : 0 < d := by rw [fIs_nat] at hf; exact (of_decide_eq_true hf).1
    rw [tpS]
    rcases tp_inv (P := P) hQ hf k with h | h
    · rw [h]
      cases hv : lwK (P * q ^ k) (Q * d ^ k)
      · refine .inr ?_
        have e : lwS (P * q ^ k) (Q * d ^ k) = (0, 0, false) := by unfold lwS; rw [hv]; rfl
        rw [e]
        obtain ⟨z1, z2, z3⟩ := ml_zero q d
        rw [z1, z2, z3]
      · refine .inl ?_
        obtain ⟨m1, m2, m3⟩ := ml_low (Nat.mul_pos hQ (Nat.pow_pos hd)) hv hf
        rw [m1, m2, m3, Nat.mul_assoc, Nat.mul_assoc, ← Nat.pow_succ, ← Nat.pow_succ]
    · rw [h]
      refine .inr ?_
      obtain ⟨z1, z2, z3⟩ := ml_zero q d
      rw [z1, z2, z3]
theorem tp_low {P Q q d m : Nat} (hQ : 0 < Q) (hf : fIs (q : Int) (d : Int) = true) (hk : lwK (P * q ^ m) (Q * d ^ m) = true → ∀ k, k ≤ m → lwK (P * q ^ k) (Q * d ^ k) = true) :
    tpS (lwS P Q).1 (lwS P Q).2.1 q d m = lwS (P * q ^ m) (Q * d ^ m) := by
  cases hv : lwK (P * q ^ m) (Q * d ^ m)
  · have e : lwS (P * q ^ m) (Q * d ^ m) = (0, 0, false) := by unfold lwS; rw [hv]; rfl
    rcases tp_inv (P := P) hQ hf m with h | h
    · exact h
    · rw [e]; exact h
  · have hd : 0 < d := by rw [fIs_nat] at hf; exact (of_decide_eq_true hf).1
    have key : ∀ k, k ≤ m → tpS (lwS P Q).1 (lwS P Q).2.1 q d k = lwS (P * q ^ k) (Q * d ^ k) := by
      intro k
      induction k with
      | zero =>
        intro _
        rw [tpS, lwS_fIs hQ, Nat.pow_zero, Nat.pow_zero, Nat.mul_one, Nat.mul_one]
      | succ k ih =>
        intro hkm
        obtain ⟨m1, m2, m3⟩ := ml_low (Nat.mul_pos hQ (Nat.pow_pos hd)) (hk hv k (by omega)) hf
        rw [tpS, ih (by omega), m1, m2, m3, Nat.mul_assoc, Nat.mul_assoc, ← Nat.pow_succ, ← Nat.pow_succ]
    exact key m (Nat.le_refl _)
/-- A number of stations and a chance. -/
def chB (n pn pd : Int) : Bool := rgB 1 12 n && (fIs pn pd && (decide (0 ≤ pn) && decide (pn ≤ pd)))
theorem chB_parts {n pn pd : Int} (h : chB n pn pd = true) : (1 ≤ n ∧ n ≤ 12) ∧ fIs pn pd = true ∧ 0 ≤ pn ∧ pn ≤ pd := by
  unfold chB at h
  obtain ⟨h1, h2⟩ := Bool.and_eq_true_iff.1 h
  obtain ⟨h3, h4⟩ := Bool.and_eq_true_iff.1 h2
  obtain ⟨h5, h6⟩ := Bool.and_eq_true_iff.1 h4
  exact ⟨of_decide_eq_true h1, h3, of_decide_eq_true h5, of_decide_eq_true h6⟩
theorem ag_one {pn pd : Int} (h : fIs pn pd = true) (hq : ptB (pd - pn) = true) : agN 1 (-pn) 1 pd = pd - pn ∧ agD 1 (-pn) 1 pd = pd ∧ agB 1 (-pn) 1 pd = true := by
  have hp := of_decide_eq_true h
  have f1 : fIs 1 1 = true := by decide
  have f2 : fIs (-pn) pd = true := decide_eq_true ⟨hp.1, hp.2.1, by omega, by omega, by rw [Int.natAbs_neg]; exact hp.2.2.2.2⟩
  have hT : adT 1 (-pn) 1 pd.toNat = pd - pn := by
    unfold adT
    rw [Nat.gcd_one_left, Nat.div_one, Nat.div_one]
    omega
  have hS : adS 1 (-pn) 1 pd.toNat = 1 := by
    unfold adS
    rw [Nat.gcd_one_left, Nat.gcd_one_right]
  have hN : adN 1 (-pn) 1 pd.toNat = pd - pn := by
    unfold adN
    rw [hT, hS]
    unfold ovV
    rw [Nat.div_one]
    split <;> omega
  have hM : adM 1 (-pn) 1 pd.toNat = pd := by
    unfold adM
    rw [hS, Nat.gcd_one_left, Nat.div_one, Nat.div_one]
    omega
  have hpd : ptB pd = true := decide_eq_true ⟨by omega, by omega⟩
  have e1 : (1 : Int).toNat = 1 := rfl
  unfold agN agD agB
  rw [if_pos ⟨f1, f2⟩, if_pos ⟨f1, f2⟩, if_pos ⟨f1, f2⟩, e1, hN, hM, hq, hpd]
  unfold foN foD
  rw [if_pos ⟨hq, hpd⟩, if_pos ⟨hq, hpd⟩]
  exact ⟨rfl, rfl, rfl⟩
theorem sl_eq (n pn pd : Int) : slOk n pn pd = chB n pn pd := by
  unfold slOk chB
  cases hf : fIs pn pd
  · have : agB 1 (-pn) 1 pd = false := by
      unfold agB
      rw [if_neg]
      intro e
      have h2 := of_decide_eq_true e.2
      rw [Int.natAbs_neg] at h2
      have : fIs pn pd = true := decide_eq_true ⟨h2.1, h2.2.1, by omega, by omega, h2.2.2.2.2⟩
      rw [hf] at this; cases this
    rw [this]; simp
  · cases hq : ptB (pd - pn)
    · have hp := of_decide_eq_true hf
      have hn : ¬ (0 ≤ pn ∧ pn ≤ pd) := fun e => by
        have := of_decide_eq_false hq
        omega
      have : agB 1 (-pn) 1 pd = false := by
        unfold agB
        split
        · have hT : adT 1 (-pn) 1 pd.toNat = pd - pn := by
            unfold adT
            rw [Nat.gcd_one_left, Nat.div_one, Nat.div_one]
            omega
          have hS : adS 1 (-pn) 1 pd.toNat = 1 := by
            unfold adS
            rw [Nat.gcd_one_left, Nat.gcd_one_right]
          have hN : adN 1 (-pn) 1 pd.toNat = pd - pn := by
            unfold adN
            rw [hT, hS]
            unfold ovV
            rw [Nat.div_one]
            split <;> omega
          rw [show (1 : Int).toNat = 1 from rfl, hN, hq]; rfl
        · rfl
      rw [this]
      by_cases g1 : 0 ≤ pn
      · rw [decide_eq_false (show ¬ pn ≤ pd from fun e => hn ⟨g1, e⟩)]; simp
      · rw [decide_eq_false g1]; simp
    · obtain ⟨a1, a2, a3⟩ := ag_one hf hq
      rw [a1, a3]
      have : decide (0 ≤ pd - pn) = decide (pn ≤ pd) := by
        by_cases g : pn ≤ pd
        · rw [decide_eq_true g, decide_eq_true (by omega)]
        · rw [decide_eq_false g, decide_eq_false (by omega)]
      rw [this]; rfl
/-- A chance's numbers. -/
theorem ch_nat {n pn pd : Int} (h : chB n pn pd = true) : ∃ N p q d : Nat, n = N ∧ pn = p ∧ pd = d ∧ d = p + q ∧ 1 ≤ N ∧ N ≤ 12 ∧ 0 < d ∧ d ≤ 1000000000000000000 ∧ Nat.Coprime p d ∧ Nat.Coprime q d ∧ fIs (q : Int) (d : Int) = true ∧ fIs (p : Int) (d : Int) = true ∧ slN n pn pd = q ∧ slD n pn pd = d := by
  obtain ⟨hn, hf, h1, h2⟩ := chB_parts h
  have hp := of_decide_eq_true hf
  obtain ⟨N, rfl⟩ := Int.eq_ofNat_of_zero_le (show 0 ≤ n by omega)
  obtain ⟨p, rfl⟩ := Int.eq_ofNat_of_zero_le h1
  obtain ⟨d, rfl⟩ := Int.eq_ofNat_of_zero_le (show 0 ≤ pd by omega)
  obtain ⟨q, hq⟩ := Nat.exists_eq_add_of_le (show p ≤ d by omega)
  have e1 := hp.2.2.2.2
  rw [Int.natAbs_natCast, Int.natAbs_natCast] at e1
  have e2 : Nat.gcd q d = 1 := by
    have h3 : Nat.gcd q d ∣ p := by
      have a1 : Nat.gcd q d ∣ p + q := by rw [← hq]; exact Nat.gcd_dvd_right _ _
      exact (Nat.dvd_add_left (Nat.gcd_dvd_left q d)).1 a1
    exact Nat.dvd_one.1 (by rw [← e1]; exact Nat.dvd_gcd h3 (Nat.gcd_dvd_right _ _))
  have hqd : ((d : Int) - (p : Int)) = (q : Int) := by omega
  have hb : ptB ((d : Int) - (p : Int)) = true := decide_eq_true ⟨by omega, by omega⟩
  obtain ⟨a1, a2, a3⟩ := ag_one hf hb
  have hs : slOk (N : Int) (p : Int) (d : Int) = true := by rw [sl_eq]; exact h
  refine ⟨N, p, q, d, rfl, rfl, rfl, hq, by omega, by omega, by omega, by omega, e1, e2, ?_, hf, ?_, ?_⟩
  · rw [fIs_nat]; exact decide_eq_true ⟨by omega, by omega, by omega, e2⟩
  · unfold slN; rw [hs, if_pos rfl, a1, hqd]
  · unfold slD; rw [hs, if_pos rfl, a2]
theorem lwS_one (n : Nat) (h : n ≤ 1000000000000000000) : lwS n 1 = ((n : Int), (1 : Int), true) := by
  unfold lwS lwK
  rw [Nat.gcd_one_right, Nat.div_one, Nat.div_one, decide_eq_true ⟨h, by decide⟩]
  rfl
/-- What QuietChance answers is the power. -/
theorem qc_eq {N p q d : Nat} {n pn pd : Int} (h : chB n pn pd = true) (e1 : n = N) (hd : d = p + q) (hd0 : 0 < d) (cq : Nat.Coprime q d) (hf : fIs (q : Int) (d : Int) = true) (s1 : slN n pn pd = q) (s2 : slD n pn pd = d) :
    qcS n pn pd = lwS (q ^ N) (d ^ N) := by
  unfold qcS
  rw [sl_eq, h, if_pos rfl, s1, s2, e1, Int.toNat_natCast]
  have := tp_low (P := 1) (Q := 1) (q := q) (d := d) (m := N) (by decide) hf (by
    rw [Nat.one_mul, Nat.one_mul]
    intro hv k hk
    rw [Nat.one_mul, Nat.one_mul]
    exact lw_quiet (by omega) hd0 cq hv k hk)
  rw [lwS_one 1 (by decide), Nat.one_mul, Nat.one_mul] at this
  exact this
/-- What SuccessChance answers is the product. -/
theorem sc_eq {N p q d : Nat} {n pn pd : Int} (h : chB n pn pd = true) (e1 : n = N) (e2 : pn = p) (e3 : pd = d) (hd : d = p + q) (hd0 : 0 < d) (h1 : 1 ≤ N) (h12 : N ≤ 12) (cp : Nat.Coprime p d) (cq : Nat.Coprime q d) (hf : fIs (q : Int) (d : Int) = true) (hp : fIs (p : Int) (d : Int) = true) (s1 : slN n pn pd = q) (s2 : slD n pn pd = d) :
    scS n pn pd = lwS (N * p * q ^ (N - 1)) (d * d ^ (N - 1)) := by
  unfold scS
  rw [sl_eq, h, if_pos rfl, s1, s2, e1, e2, e3]
  obtain ⟨m1, m2, m3⟩ := ml_low (P := N) (Q := 1) (q := p) (d := d) (by decide) (by unfold lwK; rw [Nat.gcd_one_right, Nat.div_one, Nat.div_one]; exact decide_eq_true ⟨by omega, by decide⟩) hp
  rw [lwS_one N (by omega), Nat.one_mul] at m1 m2
  dsimp only at m1 m2
  rw [m1, m2, show ((N : Int) - 1).toNat = N - 1 by omega]
  refine tp_low hd0 hf fun hv => ?_
  exact lw_success h1 h12 hd hd0 cp cq (by omega) hv
theorem pt_lw {A B : List Nat} : (ptN A B, ptD A B, ptK A B) = lwS (prN A) (prN B) := by
  unfold ptN ptD lwS
  have e : lwK (prN A) (prN B) = ptK A B := rfl
  rw [e]
  cases h : ptK A B
  · rfl
  · rfl
end Go.Proofs.Ytmhdjimdhcephab
