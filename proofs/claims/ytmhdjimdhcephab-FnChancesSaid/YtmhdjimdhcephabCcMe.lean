/- Several texts in one: Both DifferentChance; powers. | Plain: what the program's products of chances give is what the model's give. | The model's QuietChance and SuccessChance. | Small chances: drawn, raised to powers, compared. | Plain: what FnChances asks. | The walk of the law FnChances. | Chances of quiet and of success are products that counting all stations gives for small denominators, and no drawn chance of sending makes success more likely than the best one. -/
import Derived.Test.YtmhdjimdhcephabCcMc
import Derived.Test.YtmhdjimdhcephabNdI
import Derived.Test.YtmhdjimdhcephabMake
import Derived.Test.YtmhdjimdhcephabApp
import Derived.Test.YtmhdjimdhcephabCcMb
import Derived.Test.YtmhdjimdhcephabLwP
import Derived.Test.YtmhdjimdhcephabCcMd
import Derived.Test.YtmhdjimdhcephabBst
import Derived.Test.YtmhdjimdhcephabCcMa
import Derived.Test.YtmhdjimdhcephabRows
import Derived.ProofKit
import Derived.OpenShut
import Derived.ShutString
import Derived.ChangeOld
import Derived.Below
import Derived.Carry
import Derived.Test.YtmhdjimdhcephabSrc
namespace Go.Proofs.Ytmhdjimdhcephab
open Go Go.RowKit
set_option linter.unusedVariables false

theorem l00MaxP_any (a b : Int) (w : World) :
    Calls Try.prog 120 #[.int .i64 a, .int .i64 b] w fun e w' => e = .returned (.int .i64 (max a b)) ∧ w = w' := by
  by_cases h : a > b
  · have HE : Hid (max a b = a) := by show _ = _; omega
    go_enter Try.func120, Try.ntmps120
    go_wp2_with fail
    go_ret
    exact ⟨ret_int HE.out.symm, rfl⟩
  · have HE : Hid (max a b = b) := by show _ = _; omega
    go_enter Try.func120, Try.ntmps120
    go_wp2_with fail
    go_ret
    exact ⟨ret_int HE.out.symm, rfl⟩
theorem cI_snoc (A : List Nat) (x : Nat) : cI (A ++ [x]) = cI A ++ [(x : Int)] := by simp [cI]
/-- Fractions of products that are small. -/
theorem mk_pt {P Q : Nat} (hQ : 0 < Q) (hP : P ≤ 1000000000000000000) (hQ2 : Q ≤ 1000000000000000000) : mkN (P : Int) (Q : Int) = ((P / Nat.gcd P Q : Nat) : Int) ∧ mkD (P : Int) (Q : Int) = ((Q / Nat.gcd P Q : Nat) : Int) := by
  unfold mkN mkD
  rw [if_neg (by omega)]
  simp only [Int.natAbs_natCast]
  exact ⟨rfl, rfl⟩
theorem pt_ok {A B : List Nat} (hP : prN A ≤ 1000000000000000000) (hQ : prN B ≤ 1000000000000000000) : ptK A B = true ∧ ptN A B = ((prN A / Nat.gcd (prN A) (prN B) : Nat) : Int) ∧ ptD A B = ((prN B / Nat.gcd (prN A) (prN B) : Nat) : Int) := by
  have h : ptK A B = true := decide_eq_true ⟨Nat.le_trans (Nat.div_le_self _ _) hP, Nat.le_trans (Nat.div_le_self _ _) hQ⟩
  exact ⟨h, by unfold ptN; rw [h]; rfl, by unfold ptD; rw [h]; rfl⟩
theorem prN_bd {c : Nat} : ∀ {l : List Nat}, (∀ x ∈ l, x ≤ c) → prN l ≤ c ^ l.length
  | [], _ => by simp [prN]
  | x :: t, h => by
    have ih := prN_bd (l := t) fun y hy => h y (List.mem_cons_of_mem _ hy)
    rw [prN, List.length_cons, Nat.pow_succ, Nat.mul_comm]
    exact Nat.mul_le_mul ih (h x List.mem_cons_self)
theorem pow_small {n w : Nat} (hn : n ≤ 12) (hw : w ≤ 20) : w ^ n ≤ 4096000000000000 := by
  have h1 : w ^ n ≤ 20 ^ n := Nat.pow_le_pow_left hw n
  have h2 : 20 ^ n ≤ 20 ^ 12 := Nat.pow_le_pow_right (by decide) hn
  have h3 : (20 : Nat) ^ 12 = 4096000000000000 := by decide
  omega
def dfO (n w : Nat) : List Nat := (List.range n).map (fun i => w - i)
theorem dfO_len (n w : Nat) : (dfO n w).length = n := by simp [dfO]
theorem dfO_succ (n w : Nat) : dfO (n + 1) w = dfO n w ++ [w - n] := by simp [dfO, List.range_succ]
theorem dfO_le (n w : Nat) : ∀ x ∈ dfO n w, x ≤ w := by
  intro x hx
  obtain ⟨i, -, rfl⟩ := List.mem_map.1 hx
  omega
theorem rep_succ (n w : Nat) : List.replicate (n + 1) w = List.replicate n w ++ [w] := by rw [List.replicate_succ']
def dfP (n w : Nat) : Nat := prN (dfO n w)
theorem dfP_bd {n w : Nat} (hn : n ≤ 12) (hw : w ≤ 20) : dfP n w ≤ 4096000000000000 := by
  have h := prN_bd (dfO_le n w)
  rw [dfO_len] at h
  exact Nat.le_trans h (pow_small hn hw)
theorem dfP_succ (n w : Nat) : ((dfP (n + 1) w : Nat) : Int) = (dfP n w : Int) * ((w : Int) - (n : Int)) := by
  unfold dfP
  rw [dfO_succ, prN_append]
  simp only [prN, Nat.mul_one]
  by_cases h : n ≤ w
  · rw [Int.natCast_mul]; congr 1; omega
  · have h0 : prN (dfO n w) = 0 := by
      have key : ∀ d, prN (dfO (w + 1 + d) w) = 0 := by
        intro d
        induction d with
        | zero => rw [Nat.add_zero, dfO_succ, prN_append]; simp [prN]
        | succ d ih => rw [show w + 1 + (d + 1) = (w + 1 + d) + 1 from rfl, dfO_succ, prN_append, ih, Nat.zero_mul]
      have := key (n - (w + 1))
      rwa [show w + 1 + (n - (w + 1)) = n by omega] at this
    rw [h0]; simp
def dcK (n w : Int) : Bool := rgB 1 12 n && rgB 1 20 w
def dcN (n w : Int) : Int := if dcK n w then ptN (dfO n.toNat w.toNat) (List.replicate n.toNat w.toNat) else 0
def dcD (n w : Int) : Int := if dcK n w then ptD (dfO n.toNat w.toNat) (List.replicate n.toNat w.toNat) else 0
theorem dc_no {n w : Int} (h : rgB 1 12 n = false ∨ rgB 1 20 w = false) : dcK n w = false ∧ dcN n w = 0 ∧ dcD n w = 0 := by
  have e : dcK n w = false := by unfold dcK; rcases h with h | h <;> rw [h] <;> simp
  exact ⟨e, by unfold dcN; rw [e]; rfl, by unfold dcD; rw [e]; rfl⟩
theorem dc_yes {n w : Nat} (h1 : rgB 1 12 (n : Int) = true) (h2 : rgB 1 20 (w : Int) = true) : dcK n w = true ∧ dcN n w = ptN (dfO n w) (List.replicate n w) ∧ dcD n w = ptD (dfO n w) (List.replicate n w) := by
  have e : dcK (n : Int) (w : Int) = true := by unfold dcK; rw [h1, h2]; rfl
  exact ⟨e, by unfold dcN; rw [e]; simp, by unfold dcD; rw [e]; simp⟩
set_option maxRecDepth 100000 in
theorem powerOf_any (a n : Nat) (ha : a ≤ 20) (hn : n ≤ 12) (w : World) :
    Calls Try.prog 91 #[.int .i64 (a : Int), .int .i64 (n : Int)] w fun e w' => e = .returned (.int .i64 ((a ^ n : Nat) : Int)) ∧ w = w' := by
  have HB := Lib.hid (fun k (h : k ≤ 12) => pow_small (n := k) (w := a) h ha)
  have HS : Hid (∀ k : Nat, ((a ^ k : Nat) : Int) * (a : Int) = ((a ^ (k + 1) : Nat) : Int)) := by
    show ∀ k : Nat, _
    intro k
    rw [Nat.pow_succ, Int.natCast_mul]
  go_enter Try.func91, Try.ntmps91
  go_wp2_with fail
  go_loop [5, 7] (fun p i => ∃ k : Nat, k ≤ n ∧ i = .int .i64 k ∧ p = .int .i64 ((a ^ k : Nat) : Int)) (fun _ i => n - (intOf i).toNat)
  case atStart => exact ⟨0, Nat.zero_le _, rfl, by simp⟩
  case round =>
    obtain ⟨k, hk, rfl, rfl⟩ := hrel
    by_cases hlt : k < n
    · have hk1 : (k : Int) < (n : Int) := by omega
      have h1 := HB.out (k + 1) (by omega)
      have e1 := HS.out k
      obtain ⟨Z, hZ⟩ : ∃ Z : Nat, Z = a ^ (k + 1) := ⟨_, rfl⟩
      rw [← hZ] at h1 e1
      have HZ := Lib.hid hZ
      clear hZ
      generalize a ^ k = Y at *
      have w1 : IntKind.i64.wrap ((Y : Int) * (a : Int)) = (Z : Int) := by rw [e1]; exact IntWalk.i64_in _ (by omega)
      clear e1
      go_wp2_with fail
      go_round
      case rel => exact ⟨k + 1, by omega, by go_num, by rw [← HZ.out]⟩
      case measure => simp [intOf]; omega
    · obtain rfl : k = n := by omega
      go_wp2_with fail
      go_ret
      exact ⟨rfl, rfl⟩

end Go.Proofs.Ytmhdjimdhcephab

namespace Go.Proofs.Ytmhdjimdhcephab
open Go Go.RowKit
set_option linter.unusedVariables false

/-- P over Q in lowest terms, where it is in range. -/
def lwS (P Q : Nat) : Int × Int × Bool := if lwK P Q then (((P / Nat.gcd P Q : Nat) : Int), ((Q / Nat.gcd P Q : Nat) : Int), true) else (0, 0, false)
theorem mkN_nat (a d : Nat) : mkN (a : Int) (d : Int) = ((a / Nat.gcd a d : Nat) : Int) := by
  unfold mkN
  rw [if_neg (by omega), Int.natAbs_natCast, Int.natAbs_natCast]
  rfl
theorem mkD_nat (a d : Nat) : mkD (a : Int) (d : Int) = ((d / Nat.gcd a d : Nat) : Int) := by
  unfold mkD
  rw [Int.natAbs_natCast, Int.natAbs_natCast]
  rfl
theorem fIs_nat (a b : Nat) : fIs (a : Int) (b : Int) = decide (1 ≤ b ∧ b ≤ 1000000000000000000 ∧ a ≤ 1000000000000000000 ∧ Nat.gcd a b = 1) := by
  unfold fIs
  rw [Int.natAbs_natCast, Int.natAbs_natCast]
  by_cases h : 1 ≤ b ∧ b ≤ 1000000000000000000 ∧ a ≤ 1000000000000000000 ∧ Nat.gcd a b = 1
  · rw [decide_eq_true h, decide_eq_true ⟨by omega, by omega, by omega, by omega, h.2.2.2⟩]
  · rw [decide_eq_false h, decide_eq_false (fun e => h ⟨by omega, by omega, by omega, e.2.2.2.2⟩)]
theorem ptB_nat (n : Nat) : ptB (n : Int) = decide (n ≤ 1000000000000000000) := by
  unfold ptB
  by_cases h : n ≤ 1000000000000000000
  · rw [decide_eq_true h, decide_eq_true ⟨by omega, by omega⟩]
  · rw [decide_eq_false h, decide_eq_false (fun e => h (by omega))]
theorem lwS_fIs {P Q : Nat} (hQ : 0 < Q) : fIs (lwS P Q).1 (lwS P Q).2.1 = (lwS P Q).2.2 := by
  unfold lwS
  cases h : lwK P Q
  · rfl
  · have h1 := of_decide_eq_true h
    obtain ⟨c, p, -⟩ := lw_red P Q hQ
    rw [if_pos rfl]
    dsimp only
    rw [fIs_nat]
    exact decide_eq_true ⟨p, h1.2, h1.1, c⟩
theorem ml_zero (q d : Int) : mlN 0 0 q d = 0 ∧ mlD 0 0 q d = 0 ∧ mlB 0 0 q d = false := by
  have h : ¬ mfOk 0 0 q d := fun e => by have := e.1; exact absurd this (by decide)
  unfold mlN mlD mlB
  rw [if_neg h, if_neg h, if_neg h]
  exact ⟨rfl, rfl, rfl⟩
theorem ml_low {P Q q d : Nat} (hQ : 0 < Q) (hv : lwK P Q = true) (hf : fIs (q : Int) (d : Int) = true) :
    mlN (lwS P Q).1 (lwS P Q).2.1 q d = (lwS (P * q) (Q * d)).1 ∧ mlD (lwS P Q).1 (lwS P Q).2.1 q d = (lwS (P * q) (Q * d)).2.1 ∧ mlB (lwS P Q).1 (lwS P Q).2.1 q d = (lwS (P * q) (Q * d)).2.2 := by
  obtain ⟨c, p, e⟩ := lw_red P Q hQ
  have hfi := lwS_fIs (P := P) (Q := Q) hQ
  have hq := hf
  rw [fIs_nat] at hq
  have hq := of_decide_eq_true hq
  obtain ⟨k1, k2⟩ := lw_step c p (show Nat.Coprime q d from hq.2.2.2) hq.1 hQ e
  have e1 : lwS P Q = (((P / Nat.gcd P Q : Nat) : Int), ((Q / Nat.gcd P Q : Nat) : Int), true) := by unfold lwS; rw [hv]; rfl
  rw [e1] at hfi ⊢
  dsimp only at hfi ⊢
  have hm : mfOk ((P / Nat.gcd P Q : Nat) : Int) ((Q / Nat.gcd P Q : Nat) : Int) (q : Int) (d : Int) := ⟨hfi, hf⟩
  generalize P / Nat.gcd P Q = a at *
  generalize Q / Nat.gcd P Q = b at *
  unfold mlN mlD mlB
  rw [if_pos hm, if_pos hm, if_pos hm, mkN_nat, mkD_nat, mkN_nat, mkD_nat, ← Int.natCast_mul, ← Int.natCast_mul, k1, k2]
  unfold foN foD lwS lwK
  rw [ptB_nat, ptB_nat]
  generalize P * q / Nat.gcd (P * q) (Q * d) = x at *
  generalize Q * d / Nat.gcd (P * q) (Q * d) = y at *
  by_cases h1 : x ≤ 1000000000000000000
  · by_cases h2 : y ≤ 1000000000000000000
    · simp [h1, h2]
    · simp [h1, h2]
  · simp [h1]
theorem tp_inv {P Q q d : Nat} (hQ : 0 < Q) (hf : fIs (q : Int) (d : Int) = true) : ∀ k, tpS (lwS P Q).1 (lwS P Q).2.1 q d k = lwS (P * q ^ k) (Q * d ^ k) ∨ tpS (lwS P Q).1 (lwS P Q).2.1 q d k = (0, 0, false)
  | 0 => by
    refine .inl ?_
    rw [tpS, lwS_fIs hQ, Nat.pow_zero, Nat.pow_zero, Nat.mul_one, Nat.mul_one]
  | k + 1 => by
    have hd : 0 < d := by rw [fIs_nat] at hf; exact (of_decide_eq_true hf).1
    rw [tpS]
    rcases tp_inv (P := P) hQ hf k with h | h
    · rw [h]
      cases hv : lwK (P * q ^ k) (Q * d ^ k)
      · refine .inr ?_
        have e : lwS (P * q ^ k) (Q * d ^ k) = (0, 0, false) := by unfold lwS; rw [hv]; rfl
        rw [e]
        obtain ⟨z1, z2, z3⟩ := ml_zero q d
        rw [z1, z2, z3]
      · refine .inl ?_
        obtain ⟨m1, m2, m3⟩ := ml_low (Nat.mul_pos hQ (Nat.pow_pos hd)) hv hf
        rw [m1, m2, m3, Nat.mul_assoc, Nat.mul_assoc, ← Nat.pow_succ, ← Nat.pow_succ]
    · rw [h]
      refine .inr ?_
      obtain ⟨z1, z2, z3⟩ := ml_zero q d
      rw [z1, z2, z3]
theorem tp_low {P Q q d m : Nat} (hQ : 0 < Q) (hf : fIs (q : Int) (d : Int) = true) (hk : lwK (P * q ^ m) (Q * d ^ m) = true → ∀ k, k ≤ m → lwK (P * q ^ k) (Q * d ^ k) = true) :
    tpS (lwS P Q).1 (lwS P Q).2.1 q d m = lwS (P * q ^ m) (Q * d ^ m) := by
  cases hv : lwK (P * q ^ m) (Q * d ^ m)
  · have e : lwS (P * q ^ m) (Q * d ^ m) = (0, 0, false) := by unfold lwS; rw [hv]; rfl
    rcases tp_inv (P := P) hQ hf m with h | h
    · exact h
    · rw [e]; exact h
  · have hd : 0 < d := by rw [fIs_nat] at hf; exact (of_decide_eq_true hf).1
    have key : ∀ k, k ≤ m → tpS (lwS P Q).1 (lwS P Q).2.1 q d k = lwS (P * q ^ k) (Q * d ^ k) := by
      intro k
      induction k with
      | zero =>
        intro _
        rw [tpS, lwS_fIs hQ, Nat.pow_zero, Nat.pow_zero, Nat.mul_one, Nat.mul_one]
      | succ k ih =>
        intro hkm
        obtain ⟨m1, m2, m3⟩ := ml_low (Nat.mul_pos hQ (Nat.pow_pos hd)) (hk hv k (by omega)) hf
        rw [tpS, ih (by omega), m1, m2, m3, Nat.mul_assoc, Nat.mul_assoc, ← Nat.pow_succ, ← Nat.pow_succ]
    exact key m (Nat.le_refl _)
/-- A number of stations and a chance. -/
def chB (n pn pd : Int) : Bool := rgB 1 12 n && (fIs pn pd && (decide (0 ≤ pn) && decide (pn ≤ pd)))
theorem chB_parts {n pn pd : Int} (h : chB n pn pd = true) : (1 ≤ n ∧ n ≤ 12) ∧ fIs pn pd = true ∧ 0 ≤ pn ∧ pn ≤ pd := by
  unfold chB at h
  obtain ⟨h1, h2⟩ := Bool.and_eq_true_iff.1 h
  obtain ⟨h3, h4⟩ := Bool.and_eq_true_iff.1 h2
  obtain ⟨h5, h6⟩ := Bool.and_eq_true_iff.1 h4
  exact ⟨of_decide_eq_true h1, h3, of_decide_eq_true h5, of_decide_eq_true h6⟩
theorem ag_one {pn pd : Int} (h : fIs pn pd = true) (hq : ptB (pd - pn) = true) : agN 1 (-pn) 1 pd = pd - pn ∧ agD 1 (-pn) 1 pd = pd ∧ agB 1 (-pn) 1 pd = true := by
  have hp := of_decide_eq_true h
  have f1 : fIs 1 1 = true := by decide
  have f2 : fIs (-pn) pd = true := decide_eq_true ⟨hp.1, hp.2.1, by omega, by omega, by rw [Int.natAbs_neg]; exact hp.2.2.2.2⟩
  have hT : adT 1 (-pn) 1 pd.toNat = pd - pn := by
    unfold adT
    rw [Nat.gcd_one_left, Nat.div_one, Nat.div_one]
    omega
  have hS : adS 1 (-pn) 1 pd.toNat = 1 := by
    unfold adS
    rw [Nat.gcd_one_left, Nat.gcd_one_right]
  have hN : adN 1 (-pn) 1 pd.toNat = pd - pn := by
    unfold adN
    rw [hT, hS]
    unfold ovV
    rw [Nat.div_one]
    split <;> omega
  have hM : adM 1 (-pn) 1 pd.toNat = pd := by
    unfold adM
    rw [hS, Nat.gcd_one_left, Nat.div_one, Nat.div_one]
    omega
  have hpd : ptB pd = true := decide_eq_true ⟨by omega, by omega⟩
  have e1 : (1 : Int).toNat = 1 := rfl
  unfold agN agD agB
  rw [if_pos ⟨f1, f2⟩, if_pos ⟨f1, f2⟩, if_pos ⟨f1, f2⟩, e1, hN, hM, hq, hpd]
  unfold foN foD
  rw [if_pos ⟨hq, hpd⟩, if_pos ⟨hq, hpd⟩]
  exact ⟨rfl, rfl, rfl⟩
theorem sl_eq (n pn pd : Int) : slOk n pn pd = chB n pn pd := by
  unfold slOk chB
  cases hf : fIs pn pd
  · have : agB 1 (-pn) 1 pd = false := by
      unfold agB
      rw [if_neg]
      intro e
      have h2 := of_decide_eq_true e.2
      rw [Int.natAbs_neg] at h2
      have : fIs pn pd = true := decide_eq_true ⟨h2.1, h2.2.1, by omega, by omega, h2.2.2.2.2⟩
      rw [hf] at this; cases this
    rw [this]; simp
  · cases hq : ptB (pd - pn)
    · have hp := of_decide_eq_true hf
      have hn : ¬ (0 ≤ pn ∧ pn ≤ pd) := fun e => by
        have := of_decide_eq_false hq
        omega
      have : agB 1 (-pn) 1 pd = false := by
        unfold agB
        split
        · have hT : adT 1 (-pn) 1 pd.toNat = pd - pn := by
            unfold adT
            rw [Nat.gcd_one_left, Nat.div_one, Nat.div_one]
            omega
          have hS : adS 1 (-pn) 1 pd.toNat = 1 := by
            unfold adS
            rw [Nat.gcd_one_left, Nat.gcd_one_right]
          have hN : adN 1 (-pn) 1 pd.toNat = pd - pn := by
            unfold adN
            rw [hT, hS]
            unfold ovV
            rw [Nat.div_one]
            split <;> omega
          rw [show (1 : Int).toNat = 1 from rfl, hN, hq]; rfl
        · rfl
      rw [this]
      by_cases g1 : 0 ≤ pn
      · rw [decide_eq_false (show ¬ pn ≤ pd from fun e => hn ⟨g1, e⟩)]; simp
      · rw [decide_eq_false g1]; simp
    · obtain ⟨a1, a2, a3⟩ := ag_one hf hq
      rw [a1, a3]
      have : decide (0 ≤ pd - pn) = decide (pn ≤ pd) := by
        by_cases g : pn ≤ pd
        · rw [decide_eq_true g, decide_eq_true (by omega)]
        · rw [decide_eq_false g, decide_eq_false (by omega)]
      rw [this]; rfl
/-- A chance's numbers. -/
theorem ch_nat {n pn pd : Int} (h : chB n pn pd = true) : ∃ N p q d : Nat, n = N ∧ pn = p ∧ pd = d ∧ d = p + q ∧ 1 ≤ N ∧ N ≤ 12 ∧ 0 < d ∧ d ≤ 1000000000000000000 ∧ Nat.Coprime p d ∧ Nat.Coprime q d ∧ fIs (q : Int) (d : Int) = true ∧ fIs (p : Int) (d : Int) = true ∧ slN n pn pd = q ∧ slD n pn pd = d := by
  obtain ⟨hn, hf, h1, h2⟩ := chB_parts h
  have hp := of_decide_eq_true hf
  obtain ⟨N, rfl⟩ := Int.eq_ofNat_of_zero_le (show 0 ≤ n by omega)
  obtain ⟨p, rfl⟩ := Int.eq_ofNat_of_zero_le h1
  obtain ⟨d, rfl⟩ := Int.eq_ofNat_of_zero_le (show 0 ≤ pd by omega)
  obtain ⟨q, hq⟩ := Nat.exists_eq_add_of_le (show p ≤ d by omega)
  have e1 := hp.2.2.2.2
  rw [Int.natAbs_natCast, Int.natAbs_natCast] at e1
  have e2 : Nat.gcd q d = 1 := by
    have h3 : Nat.gcd q d ∣ p := by
      have a1 : Nat.gcd q d ∣ p + q := by rw [← hq]; exact Nat.gcd_dvd_right _ _
      exact (Nat.dvd_add_left (Nat.gcd_dvd_left q d)).1 a1
    exact Nat.dvd_one.1 (by rw [← e1]; exact Nat.dvd_gcd h3 (Nat.gcd_dvd_right _ _))
  have hqd : ((d : Int) - (p : Int)) = (q : Int) := by omega
  have hb : ptB ((d : Int) - (p : Int)) = true := decide_eq_true ⟨by omega, by omega⟩
  obtain ⟨a1, a2, a3⟩ := ag_one hf hb
  have hs : slOk (N : Int) (p : Int) (d : Int) = true := by rw [sl_eq]; exact h
  refine ⟨N, p, q, d, rfl, rfl, rfl, hq, by omega, by omega, by omega, by omega, e1, e2, ?_, hf, ?_, ?_⟩
  · rw [fIs_nat]; exact decide_eq_true ⟨by omega, by omega, by omega, e2⟩
  · unfold slN; rw [hs, if_pos rfl, a1, hqd]
  · unfold slD; rw [hs, if_pos rfl, a2]
theorem lwS_one (n : Nat) (h : n ≤ 1000000000000000000) : lwS n 1 = ((n : Int), (1 : Int), true) := by
  unfold lwS lwK
  rw [Nat.gcd_one_right, Nat.div_one, Nat.div_one, decide_eq_true ⟨h, by decide⟩]
  rfl
/-- What QuietChance answers is the power. -/
theorem qc_eq {N p q d : Nat} {n pn pd : Int} (h : chB n pn pd = true) (e1 : n = N) (hd : d = p + q) (hd0 : 0 < d) (cq : Nat.Coprime q d) (hf : fIs (q : Int) (d : Int) = true) (s1 : slN n pn pd = q) (s2 : slD n pn pd = d) :
    qcS n pn pd = lwS (q ^ N) (d ^ N) := by
  unfold qcS
  rw [sl_eq, h, if_pos rfl, s1, s2, e1, Int.toNat_natCast]
  have := tp_low (P := 1) (Q := 1) (q := q) (d := d) (m := N) (by decide) hf (by
    rw [Nat.one_mul, Nat.one_mul]
    intro hv k hk
    rw [Nat.one_mul, Nat.one_mul]
    exact lw_quiet (by omega) hd0 cq hv k hk)
  rw [lwS_one 1 (by decide), Nat.one_mul, Nat.one_mul] at this
  exact this
/-- What SuccessChance answers is the product. -/
theorem sc_eq {N p q d : Nat} {n pn pd : Int} (h : chB n pn pd = true) (e1 : n = N) (e2 : pn = p) (e3 : pd = d) (hd : d = p + q) (hd0 : 0 < d) (h1 : 1 ≤ N) (h12 : N ≤ 12) (cp : Nat.Coprime p d) (cq : Nat.Coprime q d) (hf : fIs (q : Int) (d : Int) = true) (hp : fIs (p : Int) (d : Int) = true) (s1 : slN n pn pd = q) (s2 : slD n pn pd = d) :
    scS n pn pd = lwS (N * p * q ^ (N - 1)) (d * d ^ (N - 1)) := by
  unfold scS
  rw [sl_eq, h, if_pos rfl, s1, s2, e1, e2, e3]
  obtain ⟨m1, m2, m3⟩ := ml_low (P := N) (Q := 1) (q := p) (d := d) (by decide) (by unfold lwK; rw [Nat.gcd_one_right, Nat.div_one, Nat.div_one]; exact decide_eq_true ⟨by omega, by decide⟩) hp
  rw [lwS_one N (by omega), Nat.one_mul] at m1 m2
  dsimp only at m1 m2
  rw [m1, m2, show ((N : Int) - 1).toNat = N - 1 by omega]
  refine tp_low hd0 hf fun hv => ?_
  exact lw_success h1 h12 hd hd0 cp cq (by omega) hv
theorem pt_lw {A B : List Nat} : (ptN A B, ptD A B, ptK A B) = lwS (prN A) (prN B) := by
  unfold ptN ptD lwS
  have e : lwK (prN A) (prN B) = ptK A B := rfl
  rw [e]
  cases h : ptK A B
  · rfl
  · rfl
end Go.Proofs.Ytmhdjimdhcephab

namespace Go.Proofs.Ytmhdjimdhcephab
open Go Go.RowKit
set_option linter.unusedVariables false

theorem l09Chance_any (pn pd : Int) (w : World) :
    Calls Try.prog 61 #[.agg #[.int .i64 pn, .int .i64 pd]] w fun e w' => e = .returned (.bool (fIs pn pd && (decide (0 ≤ pn) && decide (pn ≤ pd)))) ∧ Below w.heap.size w w' := by
  obtain ⟨W0, hW0⟩ : ∃ W0, W0 = w.alloc (.cells #[.int .i64 pn, .int .i64 pd] 24) := ⟨_, rfl⟩
  have K0 : Hid (Below w.heap.size w W0) := by show Below _ _ _; rw [hW0]; exact (Below.refl _ _).alloc (Nat.le_refl _) _
  have X0 : Hid (Bk W0 w.heap.size [.int .i64 pn, .int .i64 pd]) := by show Bk _ _ _; rw [hW0]; exact Bk.new w [.int .i64 pn, .int .i64 pd] _ _ rfl
  have HW0 := Lib.hid hW0
  clear hW0
  have HC := Lib.hid (fun W => l01FIs_any pn pd W)
  cases g0 : fIs pn pd
  all_goals
    rw [g0] at HC
    clear g0
    obtain ⟨c0, c1⟩ := bk_twoP X0.out
    by_cases g1 : 0 ≤ pn
    all_goals
      by_cases g2 : pn ≤ pd
      all_goals
        go_enter Try.func61, Try.ntmps61
        go_wp2_with fail
        rw [← HW0.out]
        try go_wp2_with fail
        refine (HC.out _).mono ?_; rintro e w1 ⟨rfl, hb1⟩
        obtain ⟨d0, d1⟩ := bk_twoP (X0.out.keep hb1)
        have HB := Lib.hid (K0.out.trans (hb1.mono K0.out.size))
        clear hb1 c0 c1
        go_wp2_with fail
        go_ret
        exact ⟨ret_bool (by first | rfl | (rw [decide_eq_true (show 0 ≤ pn by omega)]; (try rfl); done) | (rw [decide_eq_true (show 0 ≤ pn by omega), decide_eq_true (show pn ≤ pd by omega)]; (try rfl); done) | (rw [decide_eq_true (show 0 ≤ pn by omega), decide_eq_false (show ¬ pn ≤ pd by omega)]; (try rfl); done) | (rw [decide_eq_false (show ¬ 0 ≤ pn by omega)]; (try rfl); done)), HB.out⟩

set_option maxRecDepth 100000 in
set_option maxHeartbeats 1000000 in
theorem quiet_spec (n pn pd : Int) (W : World) :
    Calls Try.prog 15 #[.int .i64 n, .agg #[.int .i64 pn, .int .i64 pd]] W fun e w' => e = .returned (.tuple #[.agg #[.int .i64 (qcS n pn pd).1, .int .i64 (qcS n pn pd).2.1], .bool (qcS n pn pd).2.2]) ∧ Below W.heap.size W w' := by
  obtain ⟨W0, hW0⟩ : ∃ W0, W0 = (W.alloc (.cells #[.int .i64 pn, .int .i64 pd] 24)).alloc (.cells #[.int .i64 0, .int .i64 0] 24) := ⟨_, rfl⟩
  have K0 : Hid (Below W.heap.size W W0) := by show Below _ _ _; rw [hW0]; exact ((Below.refl _ _).alloc (Nat.le_refl _) _).alloc (by simp) _
  have Y0 : Hid (Bk W0 W.heap.size [.int .i64 pn, .int .i64 pd]) := by show Bk _ _ _; rw [hW0]; exact (Bk.new W [.int .i64 pn, .int .i64 pd] _ _ rfl).keep ((Below.refl _ _).alloc (Nat.le_refl _) _)
  have X0 : Hid (Bk W0 (W.heap.size + 1) [.int .i64 0, .int .i64 0]) := by show Bk _ _ _; rw [hW0]; exact Bk.new _ [.int .i64 0, .int .i64 0] _ _ (by simp)
  have HW0 := Lib.hid hW0
  clear hW0
  have HC1 := Lib.hid (fun W => l09Many_any n W)
  have HC2 := Lib.hid (fun W => l09Chance_any pn pd W)
  have HSN : Hid (chB n pn pd = false → qcS n pn pd = (0, 0, false)) := by show _ → _; intro h; unfold qcS; rw [sl_eq, h]; rfl
  cases g0 : rgB 1 12 n
  · have e1 := HSN.out (by unfold chB; rw [g0]; rfl)
    rw [e1]
    rw [g0] at HC1
    clear g0 HC2 e1 HSN
    obtain ⟨r0, r1⟩ := bk_twoP X0.out
    have f0 := X0.out.f 0 (by decide)
    have f1 := X0.out.f 1 (by decide)
    obtain ⟨y0, y1⟩ := bk_twoP Y0.out
    go_enter Try.func15, Try.ntmps15
    go_wp2_with fail
    rw [← HW0.out]
    refine (HC1.out _).mono ?_; rintro e w' ⟨rfl, rfl⟩
    go_wp2_with fail
    simp [bodyPost, results, Try.results15, go_sem, r0, r1]
    first | exact (K0.out.setCell (p := ⟨W.heap.size + 1, 0, none⟩) (Nat.le_succ _) _).setCell (p := ⟨W.heap.size + 1, 1, none⟩) (Nat.le_succ _) _ | exact K0.out
  cases g1 : (fIs pn pd && (decide (0 ≤ pn) && decide (pn ≤ pd)))
  · have e1 := HSN.out (by unfold chB; rw [g1]; simp)
    rw [e1]
    rw [g0] at HC1
    rw [g1] at HC2
    clear g0 g1 e1 HSN
    obtain ⟨y0, y1⟩ := bk_twoP Y0.out
    go_enter Try.func15, Try.ntmps15
    go_wp2_with fail
    rw [← HW0.out]
    refine (HC1.out _).mono ?_; rintro e w' ⟨rfl, rfl⟩
    go_wp2_with fail
    refine (HC2.out _).mono ?_; rintro e w1 ⟨rfl, hb1⟩
    have X1 := Lib.hid (X0.out.keep hb1)
    have K1 := Lib.hid (K0.out.trans (hb1.mono K0.out.size))
    obtain ⟨r0, r1⟩ := bk_twoP X1.out
    have f0 := X1.out.f 0 (by decide)
    have f1 := X1.out.f 1 (by decide)
    clear hb1 y0 y1
    go_wp2_with fail
    simp [bodyPost, results, Try.results15, go_sem, r0, r1]
    first | exact (K1.out.setCell (p := ⟨W.heap.size + 1, 0, none⟩) (Nat.le_succ _) _).setCell (p := ⟨W.heap.size + 1, 1, none⟩) (Nat.le_succ _) _ | exact K1.out
  have hch : chB n pn pd = true := by unfold chB; rw [g0, g1]; rfl
  rw [g0] at HC1
  rw [g1] at HC2
  clear g0 g1 HSN
  obtain ⟨N, p, q, d, rfl, rfl, rfl, hd, hn1, hn12, hd0, hdM, cp, cq, hfq, hfp, s1, s2⟩ := ch_nat hch
  have hS : qcS (N : Int) (p : Int) (d : Int) = (ptN (List.replicate N q) (List.replicate N d), ptD (List.replicate N q) (List.replicate N d), ptK (List.replicate N q) (List.replicate N d)) := by
    rw [pt_lw, prN_rep, prN_rep]
    exact qc_eq hch rfl hd hd0 cq hfq s1 s2
  rw [hS]
  have HP := Lib.hid (fun W v1 v2 h1 h2 => l09Part_any W v1 v2 (List.replicate N q) (List.replicate N d) h1 h2 (by simp; omega) (by simp; omega) (by simp; omega) (by simp; omega) (fun x hx => by have := (List.mem_replicate.1 hx).2; omega) (fun x hx => by have := (List.mem_replicate.1 hx).2; omega))
  clear hS hch cp cq hfq hfp s1 s2
  generalize ptN (List.replicate N q) (List.replicate N d) = RN at *
  generalize ptD (List.replicate N q) (List.replicate N d) = RD at *
  generalize ptK (List.replicate N q) (List.replicate N d) = RK at *
  have hqd : ((d : Int) - (p : Int)) = (q : Int) := by omega
  have w0 : IntKind.i64.wrap ((d : Int) - (p : Int)) = (q : Int) := by rw [hqd]; exact IntWalk.i64_in _ (by omega)
  have HD := Lib.hid hd
  clear hd hqd
  obtain ⟨i0, hi, hz0, hz1, hz2⟩ := info_parts Try.infoInt
  obtain ⟨y0, y1⟩ := bk_twoP Y0.out
  go_enter Try.func15, Try.ntmps15
  go_wp2_with fail
  rw [← HW0.out]
  refine (HC1.out _).mono ?_; rintro e w' ⟨rfl, rfl⟩
  go_wp2_with fail
  refine (HC2.out _).mono ?_; rintro e w0' ⟨rfl, hb0⟩
  have Y1 := Lib.hid (Y0.out.keep hb0)
  have X1 := Lib.hid (X0.out.keep hb0)
  have K1 := Lib.hid (K0.out.trans (hb0.mono K0.out.size))
  clear hb0 y0 y1 X0 Y0 K0
  obtain ⟨y0, y1⟩ := bk_twoP Y1.out
  obtain ⟨W1, hW1⟩ : ∃ W1, W1 = (w0'.alloc (.cells #[] 2)).alloc (.cells #[] 2) := ⟨_, rfl⟩
  have B1 : Hid (Below w0'.heap.size w0' W1) := by show Below _ _ _; rw [hW1]; exact ((Below.refl _ _).alloc (Nat.le_refl _) _).alloc (by simp) _
  have O1 : Hid (Own W1 w0'.heap.size (.slice (some ⟨w0'.heap.size, 0, none⟩) 0 0) (cI (List.replicate 0 q))) := by
    show Own _ _ _ _
    rw [hW1]
    exact Own.keep (by
      have := World.ownsRow_lit (base := w0'.heap.size) (e := 2) (size := 1) w0' #[] 0 (Nat.le_refl _) (by decide) rfl
      simpa [cI, Own, intVals] using this) ((Below.refl _ _).alloc (Nat.le_refl _) _)
  have U1 : Hid (Own W1 w0'.heap.size (.slice (some ⟨w0'.heap.size + 1, 0, none⟩) 0 0) (cI (List.replicate 0 d))) := by
    show Own _ _ _ _
    rw [hW1]
    have := World.ownsRow_lit (base := w0'.heap.size) (e := 2) (size := 1) (w0'.alloc (.cells #[] 2)) #[] 0 (by simp) (by decide) rfl
    simpa [cI, Own, intVals] using this
  have P1 : Hid (Apart (.slice (some ⟨w0'.heap.size, 0, none⟩) 0 0) (.slice (some ⟨w0'.heap.size + 1, 0, none⟩) 0 0)) := by
    intro k h1 h2
    simp [Value.ownBlock] at h1 h2
    omega
  have HW1 := Lib.hid hW1
  have z0 : (w0'.alloc (.cells #[] 2)).cell? ⟨W.heap.size, 1, none⟩ = some (.int .i64 (d : Int)) := by
    rw [World.cell?_alloc_lt _ _ _ (World.block_lt_of_cell? _ _ y1)]; exact y1
  clear hW1
  go_wp2_with fail
  go_loopw [6, 7, 8] (fun vo vu i wr => ∃ k : Nat, k ≤ N ∧ i = .int .i64 ((k : Int)) ∧ Own wr w0'.heap.size vo (cI (List.replicate k q)) ∧ Own wr w0'.heap.size vu (cI (List.replicate k d)) ∧ Apart vo vu ∧ Below w0'.heap.size w0' wr) (fun _ _ i _ => N - (intOf i).toNat)
  case atStart => rw [← HW1.out]; exact ⟨0, Nat.zero_le _, rfl, O1.out, U1.out, P1.out, B1.out⟩
  case round =>
    obtain ⟨k, hk, rfl, ho, hu, hap, hb⟩ := hrel
    have HO := Lib.hid ho
    have HU := Lib.hid hu
    have HAP := Lib.hid hap
    have HB := Lib.hid hb
    obtain ⟨A1, c1, hv1⟩ := own_shape HO.out
    obtain ⟨A2, c2, hv2⟩ := own_shape HU.out
    have HL1 : Hid ((cI (List.replicate k q)).length = k) := by show _ = _; rw [cI_len]; simp
    have HL2 : Hid ((cI (List.replicate k d)).length = k) := by show _ = _; rw [cI_len]; simp
    rw [HL1.out] at hv1
    rw [HL2.out] at hv2
    subst hv1 hv2
    clear ho hu hap hb O1 U1 P1 B1 y0 y1 z0
    by_cases hlt : k < N
    · have hk1 : ((k : Int)) < (N : Int) := by omega
      obtain ⟨y0, y1⟩ := bk_twoP (Y1.out.keep HB.out)
      have hsz : w0'.heap.size ≤ wr.heap.size := HB.out.size
      have HSO : Hid (cI (List.replicate k q) ++ [(q : Int)] = cI (List.replicate (k + 1) q)) := by show _ = _; rw [show List.replicate (k + 1) q = (List.replicate k q) ++ [q] from (by rw [List.replicate_succ']; first | rfl | done), cI_snoc]
      have HSU : Hid (cI (List.replicate k d) ++ [(d : Int)] = cI (List.replicate (k + 1) d)) := by show _ = _; rw [show List.replicate (k + 1) d = (List.replicate k d) ++ [d] from List.replicate_succ', cI_snoc]
      have HKN := Lib.hid hlt
      have HOk : Hid (∀ o : Obj, (wr.alloc o).ownsRow w0'.heap.size 2 1 (.slice A1 (k) c1) (k) (intVals (cI (List.replicate k q)))) := by
        show ∀ _, _
        intro o
        have := World.ownsRow.alloc HO.out o
        rwa [HL1.out] at this
      go_wp2_with (at_builtin; refine wpList_append_lies _ rfl _ _ 39 rfl w0'.heap.size 2 i0 (.int .i64 0) 1 8 Try.underlying39 hi hz0 hz1 hz2 rfl (by decide) _ _ _ rfl (HOk.out _) ⟨wr.heap.size, 0, none⟩ 1 1 [.int .i64 (q : Int)] rfl rfl (c1_b _ _ _) (by intro u hu; simp at hu; subst hu; rfl) (by decide) (by unfold maxLen; omega) (by omega) (by simp; omega) (wr.heap.size + 1) (by simp) ?_)
      intro g1 cap1 w5 hown5 hgrow5 hat5 hlt5
      have HO5 : Hid (Own w5 w0'.heap.size (.slice (some ⟨g1, 0, none⟩) (k + 1) cap1) (cI (List.replicate (k + 1) q))) := by
        show Own _ _ _ _
        rw [← HSO.out]
        exact own_snocI (by rw [HL1.out]; exact hown5)
      have HU5 := Lib.hid (app_other HU.out HAP.out.symm hgrow5)
      have HAP5 := Lib.hid (app_apart (n := k + 1) (cap := cap1) HU.out HAP.out.symm hat5 (Nat.le_succ _)).symm
      have HB5 := Lib.hid (below_appN HB.out HB.out.size HO.out hgrow5)
      have hsz5 : w0'.heap.size ≤ w5.heap.size := HB5.out.size
      have HUk : Hid (∀ o : Obj, (w5.alloc o).ownsRow w0'.heap.size 2 1 (.slice A2 (k) c2) (k) (intVals (cI (List.replicate k d)))) := by
        show ∀ _, _
        intro o
        have := World.ownsRow.alloc HU5.out o
        rwa [HL2.out] at this
      clear hown5 hgrow5 hat5 hlt5 HO HU HAP HB HOk HSO y0 y1
      obtain ⟨y0, y1⟩ := bk_twoP (Y1.out.keep HB5.out)
      go_wp2_with (at_builtin; refine wpList_append_lies _ rfl _ _ 39 rfl w0'.heap.size 2 i0 (.int .i64 0) 1 8 Try.underlying39 hi hz0 hz1 hz2 rfl (by decide) _ _ _ rfl (HUk.out _) ⟨w5.heap.size, 0, none⟩ 1 1 [.int .i64 (d : Int)] rfl rfl (c1_b _ _ _) (by intro u hu; simp at hu; subst hu; rfl) (by decide) (by unfold maxLen; omega) (by omega) (by simp; omega) (w5.heap.size + 1) (by simp) ?_)
      intro g2 cap2 w6 hown6 hgrow6 hat6 hlt6
      have HU6 : Hid (Own w6 w0'.heap.size (.slice (some ⟨g2, 0, none⟩) (k + 1) cap2) (cI (List.replicate (k + 1) d))) := by
        show Own _ _ _ _
        rw [← HSU.out]
        exact own_snocI (by rw [HL2.out]; exact hown6)
      have HO6 := Lib.hid (app_other HO5.out HAP5.out hgrow6)
      have HAP6 := Lib.hid (app_apart (n := k + 1) (cap := cap2) HO5.out HAP5.out hat6 (Nat.le_succ _))
      have HB6 := Lib.hid (below_appN HB5.out HB5.out.size HU5.out hgrow6)
      clear hown6 hgrow6 hat6 hlt6 HO5 HU5 HAP5 HB5 HUk y0 y1
      go_wp2_with fail
      go_roundw
      case rel => exact ⟨k + 1, HKN.out, by go_num, HO6.out, HU6.out, HAP6.out, HB6.out⟩
      case measure => simp [intOf]; have := HKN.out; omega
    · obtain rfl : k = N := by omega
      have hk1 : ¬ ((k : Int)) < (k : Int) := by omega
      go_wp2_with fail
      refine (HP.out _ _ _ HO.out.rd HU.out.rd).mono ?_; rintro e w2 ⟨rfl, hb2⟩
      have K2 := Lib.hid (K1.out.trans ((HB.out.trans (hb2.mono HB.out.size)).mono K1.out.size))
      have X2 := Lib.hid ((X1.out.keep HB.out).keep hb2)
      clear hb2
      obtain ⟨r0, r1⟩ := bk_twoP X2.out
      have f0 := X2.out.f 0 (by decide)
      have f1 := X2.out.f 1 (by decide)
      go_wp2_with fail
      simp [bodyPost, results, Try.results15, go_sem, r0, r1]
      first | exact (K2.out.setCell (p := ⟨W.heap.size + 1, 0, none⟩) (Nat.le_succ _) _).setCell (p := ⟨W.heap.size + 1, 1, none⟩) (Nat.le_succ _) _ | exact K2.out

set_option maxRecDepth 100000 in
set_option maxHeartbeats 1000000 in
theorem success_spec (n pn pd : Int) (W : World) :
    Calls Try.prog 19 #[.int .i64 n, .agg #[.int .i64 pn, .int .i64 pd]] W fun e w' => e = .returned (.tuple #[.agg #[.int .i64 (scS n pn pd).1, .int .i64 (scS n pn pd).2.1], .bool (scS n pn pd).2.2]) ∧ Below W.heap.size W w' := by
  obtain ⟨W0, hW0⟩ : ∃ W0, W0 = (W.alloc (.cells #[.int .i64 pn, .int .i64 pd] 24)).alloc (.cells #[.int .i64 0, .int .i64 0] 24) := ⟨_, rfl⟩
  have K0 : Hid (Below W.heap.size W W0) := by show Below _ _ _; rw [hW0]; exact ((Below.refl _ _).alloc (Nat.le_refl _) _).alloc (by simp) _
  have Y0 : Hid (Bk W0 W.heap.size [.int .i64 pn, .int .i64 pd]) := by show Bk _ _ _; rw [hW0]; exact (Bk.new W [.int .i64 pn, .int .i64 pd] _ _ rfl).keep ((Below.refl _ _).alloc (Nat.le_refl _) _)
  have X0 : Hid (Bk W0 (W.heap.size + 1) [.int .i64 0, .int .i64 0]) := by show Bk _ _ _; rw [hW0]; exact Bk.new _ [.int .i64 0, .int .i64 0] _ _ (by simp)
  have HW0 := Lib.hid hW0
  clear hW0
  have HC1 := Lib.hid (fun W => l09Many_any n W)
  have HC2 := Lib.hid (fun W => l09Chance_any pn pd W)
  have HSN : Hid (chB n pn pd = false → scS n pn pd = (0, 0, false)) := by show _ → _; intro h; unfold scS; rw [sl_eq, h]; rfl
  cases g0 : rgB 1 12 n
  · have e1 := HSN.out (by unfold chB; rw [g0]; rfl)
    rw [e1]
    rw [g0] at HC1
    clear g0 HC2 e1 HSN
    obtain ⟨r0, r1⟩ := bk_twoP X0.out
    have f0 := X0.out.f 0 (by decide)
    have f1 := X0.out.f 1 (by decide)
    obtain ⟨y0, y1⟩ := bk_twoP Y0.out
    go_enter Try.func19, Try.ntmps19
    go_wp2_with fail
    rw [← HW0.out]
    refine (HC1.out _).mono ?_; rintro e w' ⟨rfl, rfl⟩
    go_wp2_with fail
    simp [bodyPost, results, Try.results19, go_sem, r0, r1]
    first | exact (K0.out.setCell (p := ⟨W.heap.size + 1, 0, none⟩) (Nat.le_succ _) _).setCell (p := ⟨W.heap.size + 1, 1, none⟩) (Nat.le_succ _) _ | exact K0.out
  cases g1 : (fIs pn pd && (decide (0 ≤ pn) && decide (pn ≤ pd)))
  · have e1 := HSN.out (by unfold chB; rw [g1]; simp)
    rw [e1]
    rw [g0] at HC1
    rw [g1] at HC2
    clear g0 g1 e1 HSN
    obtain ⟨y0, y1⟩ := bk_twoP Y0.out
    go_enter Try.func19, Try.ntmps19
    go_wp2_with fail
    rw [← HW0.out]
    refine (HC1.out _).mono ?_; rintro e w' ⟨rfl, rfl⟩
    go_wp2_with fail
    refine (HC2.out _).mono ?_; rintro e w1 ⟨rfl, hb1⟩
    have X1 := Lib.hid (X0.out.keep hb1)
    have K1 := Lib.hid (K0.out.trans (hb1.mono K0.out.size))
    obtain ⟨r0, r1⟩ := bk_twoP X1.out
    have f0 := X1.out.f 0 (by decide)
    have f1 := X1.out.f 1 (by decide)
    clear hb1 y0 y1
    go_wp2_with fail
    simp [bodyPost, results, Try.results19, go_sem, r0, r1]
    first | exact (K1.out.setCell (p := ⟨W.heap.size + 1, 0, none⟩) (Nat.le_succ _) _).setCell (p := ⟨W.heap.size + 1, 1, none⟩) (Nat.le_succ _) _ | exact K1.out
  have hch : chB n pn pd = true := by unfold chB; rw [g0, g1]; rfl
  rw [g0] at HC1
  rw [g1] at HC2
  clear g0 g1 HSN
  obtain ⟨N, p, q, d, rfl, rfl, rfl, hd, hn1, hn12, hd0, hdM, cp, cq, hfq, hfp, s1, s2⟩ := ch_nat hch
  obtain ⟨M, hM⟩ : ∃ M, M + 1 = N := ⟨N - 1, by omega⟩
  have hM1 : N - 1 = M := by omega
  have hS : scS (N : Int) (p : Int) (d : Int) = (ptN (N :: p :: List.replicate M q) (List.replicate (M + 1) d), ptD (N :: p :: List.replicate M q) (List.replicate (M + 1) d), ptK (N :: p :: List.replicate M q) (List.replicate (M + 1) d)) := by
    rw [pt_lw, show prN (N :: p :: List.replicate M q) = N * (p * q ^ M) by rw [prN, prN, prN_rep], prN_rep]
    exact (by rw [← Nat.mul_assoc, Nat.pow_succ, Nat.mul_comm (d ^ M), ← hM1]; exact sc_eq hch rfl rfl rfl hd hd0 hn1 hn12 cp cq hfq hfp s1 s2)
  rw [hS]
  have HP := Lib.hid (fun W v1 v2 h1 h2 => l09Part_any W v1 v2 (N :: p :: List.replicate M q) (List.replicate (M + 1) d) h1 h2 (by simp) (by simp) (by simp; omega) (by simp; omega) (fun x hx => by rcases List.mem_cons.1 hx with h | hx2; (subst h; omega); rcases List.mem_cons.1 hx2 with h | hx3; (subst h; omega); have := (List.mem_replicate.1 hx3).2; omega) (fun x hx => by have := (List.mem_replicate.1 hx).2; omega))
  clear hS hch cp cq hfq hfp s1 s2
  have HMN := Lib.hid hM
  clear hM hM1
  generalize ptN (N :: p :: List.replicate M q) (List.replicate (M + 1) d) = RN at *
  generalize ptD (N :: p :: List.replicate M q) (List.replicate (M + 1) d) = RD at *
  generalize ptK (N :: p :: List.replicate M q) (List.replicate (M + 1) d) = RK at *
  have hqd : ((d : Int) - (p : Int)) = (q : Int) := by omega
  have w0 : IntKind.i64.wrap ((d : Int) - (p : Int)) = (q : Int) := by rw [hqd]; exact IntWalk.i64_in _ (by omega)
  have HD := Lib.hid hd
  clear hd hqd
  obtain ⟨i0, hi, hz0, hz1, hz2⟩ := info_parts Try.infoInt
  obtain ⟨y0, y1⟩ := bk_twoP Y0.out
  go_enter Try.func19, Try.ntmps19
  go_wp2_with fail
  rw [← HW0.out]
  refine (HC1.out _).mono ?_; rintro e w' ⟨rfl, rfl⟩
  go_wp2_with fail
  refine (HC2.out _).mono ?_; rintro e w0' ⟨rfl, hb0⟩
  have Y1 := Lib.hid (Y0.out.keep hb0)
  have X1 := Lib.hid (X0.out.keep hb0)
  have K1 := Lib.hid (K0.out.trans (hb0.mono K0.out.size))
  clear hb0 y0 y1 X0 Y0 K0
  obtain ⟨y0, y1⟩ := bk_twoP Y1.out
  obtain ⟨W1, hW1⟩ : ∃ W1, W1 = (w0'.alloc (.cells #[.int .i64 (N : Int), .int .i64 (p : Int)] 2)).alloc (.cells #[.int .i64 (d : Int)] 2) := ⟨_, rfl⟩
  have B1 : Hid (Below w0'.heap.size w0' W1) := by show Below _ _ _; rw [hW1]; exact ((Below.refl _ _).alloc (Nat.le_refl _) _).alloc (by simp) _
  have O1 : Hid (Own W1 w0'.heap.size (.slice (some ⟨w0'.heap.size, 0, none⟩) 2 2) (cI (N :: p :: List.replicate 0 q))) := by
    show Own _ _ _ _
    rw [hW1]
    exact Own.keep (by
      have := World.ownsRow_lit (base := w0'.heap.size) (e := 2) (size := 1) w0' #[.int .i64 (N : Int), .int .i64 (p : Int)] 2 (Nat.le_refl _) (by decide) rfl
      simpa [cI, Own, intVals] using this) ((Below.refl _ _).alloc (Nat.le_refl _) _)
  have U1 : Hid (Own W1 w0'.heap.size (.slice (some ⟨w0'.heap.size + 1, 0, none⟩) 1 1) (cI (List.replicate (0 + 1) d))) := by
    show Own _ _ _ _
    rw [hW1]
    have := World.ownsRow_lit (base := w0'.heap.size) (e := 2) (size := 1) (w0'.alloc (.cells #[.int .i64 (N : Int), .int .i64 (p : Int)] 2)) #[.int .i64 (d : Int)] 1 (by simp) (by decide) rfl
    simpa [cI, Own, intVals] using this
  have P1 : Hid (Apart (.slice (some ⟨w0'.heap.size, 0, none⟩) 2 2) (.slice (some ⟨w0'.heap.size + 1, 0, none⟩) 1 1)) := by
    intro k h1 h2
    simp [Value.ownBlock] at h1 h2
    omega
  have HW1 := Lib.hid hW1
  have z0 : (w0'.alloc (.cells #[.int .i64 (N : Int), .int .i64 (p : Int)] 2)).cell? ⟨W.heap.size, 1, none⟩ = some (.int .i64 (d : Int)) := by
    rw [World.cell?_alloc_lt _ _ _ (World.block_lt_of_cell? _ _ y1)]; exact y1
  clear hW1
  go_wp2_with fail
  go_loopw [6, 7, 8] (fun vo vu i wr => ∃ k : Nat, k ≤ M ∧ i = .int .i64 ((k : Int) + 1) ∧ Own wr w0'.heap.size vo (cI (N :: p :: List.replicate k q)) ∧ Own wr w0'.heap.size vu (cI (List.replicate (k + 1) d)) ∧ Apart vo vu ∧ Below w0'.heap.size w0' wr) (fun _ _ i _ => N - (intOf i).toNat)
  case atStart => rw [← HW1.out]; exact ⟨0, Nat.zero_le _, rfl, O1.out, U1.out, P1.out, B1.out⟩
  case round =>
    obtain ⟨k, hk, rfl, ho, hu, hap, hb⟩ := hrel
    have HO := Lib.hid ho
    have HU := Lib.hid hu
    have HAP := Lib.hid hap
    have HB := Lib.hid hb
    obtain ⟨A1, c1, hv1⟩ := own_shape HO.out
    obtain ⟨A2, c2, hv2⟩ := own_shape HU.out
    have HL1 : Hid ((cI (N :: p :: List.replicate k q)).length = k + 2) := by show _ = _; rw [cI_len]; simp
    have HL2 : Hid ((cI (List.replicate (k + 1) d)).length = k + 1) := by show _ = _; rw [cI_len]; simp
    rw [HL1.out] at hv1
    rw [HL2.out] at hv2
    subst hv1 hv2
    clear ho hu hap hb O1 U1 P1 B1 y0 y1 z0
    by_cases hlt : k < M
    · have hk1 : ((k : Int) + 1) < (N : Int) := by have := HMN.out; omega
      obtain ⟨y0, y1⟩ := bk_twoP (Y1.out.keep HB.out)
      have hsz : w0'.heap.size ≤ wr.heap.size := HB.out.size
      have HSO : Hid (cI (N :: p :: List.replicate k q) ++ [(q : Int)] = cI (N :: p :: List.replicate (k + 1) q)) := by show _ = _; rw [show N :: p :: List.replicate (k + 1) q = (N :: p :: List.replicate k q) ++ [q] from (by rw [List.replicate_succ']; first | rfl | done), cI_snoc]
      have HSU : Hid (cI (List.replicate (k + 1) d) ++ [(d : Int)] = cI (List.replicate ((k + 1) + 1) d)) := by show _ = _; rw [show List.replicate ((k + 1) + 1) d = (List.replicate (k + 1) d) ++ [d] from List.replicate_succ', cI_snoc]
      have HKN := Lib.hid hlt
      have HOk : Hid (∀ o : Obj, (wr.alloc o).ownsRow w0'.heap.size 2 1 (.slice A1 (k + 2) c1) (k + 2) (intVals (cI (N :: p :: List.replicate k q)))) := by
        show ∀ _, _
        intro o
        have := World.ownsRow.alloc HO.out o
        rwa [HL1.out] at this
      go_wp2_with (at_builtin; refine wpList_append_lies _ rfl _ _ 39 rfl w0'.heap.size 2 i0 (.int .i64 0) 1 8 Try.underlying39 hi hz0 hz1 hz2 rfl (by decide) _ _ _ rfl (HOk.out _) ⟨wr.heap.size, 0, none⟩ 1 1 [.int .i64 (q : Int)] rfl rfl (c1_b _ _ _) (by intro u hu; simp at hu; subst hu; rfl) (by decide) (by unfold maxLen; omega) (by omega) (by simp; omega) (wr.heap.size + 1) (by simp) ?_)
      intro g1 cap1 w5 hown5 hgrow5 hat5 hlt5
      have HO5 : Hid (Own w5 w0'.heap.size (.slice (some ⟨g1, 0, none⟩) (k + 2 + 1) cap1) (cI (N :: p :: List.replicate (k + 1) q))) := by
        show Own _ _ _ _
        rw [← HSO.out]
        exact own_snocI (by rw [HL1.out]; exact hown5)
      have HU5 := Lib.hid (app_other HU.out HAP.out.symm hgrow5)
      have HAP5 := Lib.hid (app_apart (n := k + 2 + 1) (cap := cap1) HU.out HAP.out.symm hat5 (Nat.le_succ _)).symm
      have HB5 := Lib.hid (below_appN HB.out HB.out.size HO.out hgrow5)
      have hsz5 : w0'.heap.size ≤ w5.heap.size := HB5.out.size
      have HUk : Hid (∀ o : Obj, (w5.alloc o).ownsRow w0'.heap.size 2 1 (.slice A2 (k + 1) c2) (k + 1) (intVals (cI (List.replicate (k + 1) d)))) := by
        show ∀ _, _
        intro o
        have := World.ownsRow.alloc HU5.out o
        rwa [HL2.out] at this
      clear hown5 hgrow5 hat5 hlt5 HO HU HAP HB HOk HSO y0 y1
      obtain ⟨y0, y1⟩ := bk_twoP (Y1.out.keep HB5.out)
      go_wp2_with (at_builtin; refine wpList_append_lies _ rfl _ _ 39 rfl w0'.heap.size 2 i0 (.int .i64 0) 1 8 Try.underlying39 hi hz0 hz1 hz2 rfl (by decide) _ _ _ rfl (HUk.out _) ⟨w5.heap.size, 0, none⟩ 1 1 [.int .i64 (d : Int)] rfl rfl (c1_b _ _ _) (by intro u hu; simp at hu; subst hu; rfl) (by decide) (by unfold maxLen; omega) (by omega) (by simp; omega) (w5.heap.size + 1) (by simp) ?_)
      intro g2 cap2 w6 hown6 hgrow6 hat6 hlt6
      have HU6 : Hid (Own w6 w0'.heap.size (.slice (some ⟨g2, 0, none⟩) (k + 1 + 1) cap2) (cI (List.replicate ((k + 1) + 1) d))) := by
        show Own _ _ _ _
        rw [← HSU.out]
        exact own_snocI (by rw [HL2.out]; exact hown6)
      have HO6 := Lib.hid (app_other HO5.out HAP5.out hgrow6)
      have HAP6 := Lib.hid (app_apart (n := k + 1 + 1) (cap := cap2) HO5.out HAP5.out hat6 (Nat.le_succ _))
      have HB6 := Lib.hid (below_appN HB5.out HB5.out.size HU5.out hgrow6)
      clear hown6 hgrow6 hat6 hlt6 HO5 HU5 HAP5 HB5 HUk y0 y1
      go_wp2_with fail
      go_roundw
      case rel => exact ⟨k + 1, HKN.out, by go_num, HO6.out, HU6.out, HAP6.out, HB6.out⟩
      case measure => simp [intOf]; have := HKN.out; have := HMN.out; omega
    · obtain rfl : k = M := by omega
      have hk1 : ¬ ((k : Int) + 1) < (N : Int) := by have := HMN.out; omega
      go_wp2_with fail
      refine (HP.out _ _ _ HO.out.rd HU.out.rd).mono ?_; rintro e w2 ⟨rfl, hb2⟩
      have K2 := Lib.hid (K1.out.trans ((HB.out.trans (hb2.mono HB.out.size)).mono K1.out.size))
      have X2 := Lib.hid ((X1.out.keep HB.out).keep hb2)
      clear hb2
      obtain ⟨r0, r1⟩ := bk_twoP X2.out
      have f0 := X2.out.f 0 (by decide)
      have f1 := X2.out.f 1 (by decide)
      go_wp2_with fail
      simp [bodyPost, results, Try.results19, go_sem, r0, r1]
      first | exact (K2.out.setCell (p := ⟨W.heap.size + 1, 0, none⟩) (Nat.le_succ _) _).setCell (p := ⟨W.heap.size + 1, 1, none⟩) (Nat.le_succ _) _ | exact K2.out
end Go.Proofs.Ytmhdjimdhcephab

namespace Go.Proofs.Ytmhdjimdhcephab
open Go Go.RowKit
set_option linter.unusedVariables false

theorem rdv_keepC {w w' : World} {v : Value} {l : List Value} (h : RdV (· < w.heap.size) w v l) (hb : Below w.heap.size w w') : RdV (· < w'.heap.size) w' v l := by
  obtain ⟨A, n, c, e, hn, h1, h2, h3⟩ := h.keep hb
  refine ⟨A, n, c, e, hn, h1, h2, fun h0 => ?_⟩
  obtain ⟨b, o, ea, hK, hlt, hc⟩ := h3 h0
  exact ⟨b, o, ea, hlt, hlt, hc⟩
theorem bk_gbC {W W' : World} {b : Nat} {cs : List Value} {row : Option Nat} (h : Bk W b cs) (hg : W.grownBy W' row) (hne : ∀ k, row = some k → k ≠ b) : Bk W' b cs :=
  have e := hg.block b h.2.2 (fun e => hne b e.symm rfl)
  ⟨fun i x hx => by rw [World.cell?_of_block e]; exact h.1 i x hx, fun i hi => by rw [World.frozen?_of_block e]; exact h.2.1 i hi, Nat.lt_of_lt_of_le h.2.2 hg.size⟩
theorem chance_low (n d : Nat) (h1 : 1 ≤ d) (h2 : d ≤ 12) (h3 : n ≤ d) : ∃ p e : Nat, mkN (n : Int) (d : Int) = p ∧ mkD (n : Int) (d : Int) = e ∧ 1 ≤ e ∧ e ≤ 12 ∧ p ≤ e ∧ Nat.gcd p e = 1 := by
  have g : 0 < Nat.gcd n d := Nat.gcd_pos_of_pos_right _ (by omega)
  refine ⟨_, _, mkN_nat n d, mkD_nat n d, ?_, ?_, ?_, Nat.coprime_div_gcd_div_gcd g⟩
  · exact Nat.div_pos (Nat.le_of_dvd (by omega) (Nat.gcd_dvd_right _ _)) g
  · exact Nat.le_trans (Nat.div_le_self _ _) h2
  · exact Nat.div_le_div_right h3
set_option maxRecDepth 100000 in
set_option maxHeartbeats 1000000 in
theorem b10Chance_any (w : World) (v : Value) (l : List Value) (h : RdV (· < w.heap.size) w v l) (hb : ∀ x ∈ l, ∃ y : Int, x = .int .u8 y ∧ 0 ≤ y ∧ y ≤ 255) :
    Calls Try.prog 39 #[v] w fun e w' => ∃ p d : Nat, e = .returned (.agg #[.int .i64 p, .int .i64 d]) ∧ (1 ≤ d ∧ d ≤ 12 ∧ p ≤ d ∧ Nat.gcd p d = 1) ∧ Below w.heap.size w w' := by
  obtain ⟨W0, hW0⟩ : ∃ W0, W0 = w.alloc (.cells #[.int .i64 0, .int .i64 0] 24) := ⟨_, rfl⟩
  have K0 : Hid (Below w.heap.size w W0) := by show Below _ _ _; rw [hW0]; exact (Below.refl _ _).alloc (Nat.le_refl _) _
  have X0 : Hid (Bk W0 w.heap.size [.int .i64 0, .int .i64 0]) := by show Bk _ _ _; rw [hW0]; exact Bk.new w [.int .i64 0, .int .i64 0] _ _ rfl
  have HF := Lib.hid (src_from v l W0 (rdv_keepC h K0.out) hb)
  have HW0 := Lib.hid hW0
  have hlt : w.heap.size < W0.heap.size := X0.out.2.2
  clear hW0 hb h
  go_enter Try.func39, Try.ntmps39
  go_wp2_with fail
  rw [← HW0.out]
  refine HF.out.mono ?_; rintro e w1 ⟨rfl, hs1, hb1⟩
  have X1 := Lib.hid (X0.out.keep hb1)
  have K1 := Lib.hid (K0.out.trans (hb1.mono K0.out.size))
  have S1 := Lib.hid hs1
  have Z1 := Lib.hid hb1.size
  clear hs1 hb1 HF X0
  go_wp2_with fail
  refine (src_pick _ v l _ 0 12 w1 (by omega) (by omega) S1.out).mono ?_; rintro e w2 ⟨r, rfl, ⟨hr0, hr1, -⟩, hs2, hg2⟩
  have X2 := Lib.hid (bk_gbC X1.out hg2 (fun k hk => by injection hk with hk; omega))
  have K2 := Lib.hid (K1.out.grown hg2 K1.out.size (fun k hk => by injection hk with hk; have := K0.out.size; omega))
  have S2 := Lib.hid hs2
  have hr := hr1 (by omega)
  have wa : IntKind.i64.wrap (1 + r) = 1 + r := IntWalk.i64_in _ (by omega)
  have wb : IntKind.i64.wrap (1 + r + 1) = 1 + r + 1 := IntWalk.i64_in _ (by omega)
  clear hs2 hg2 S1 X1 K1 hr1
  go_wp2_with fail
  refine (src_pick _ v l _ 2 (1 + r + 1) w2 (by omega) (by omega) S2.out).mono ?_; rintro e w3 ⟨t, rfl, ⟨ht0, ht1, -⟩, hs3, hg3⟩
  have X3 := Lib.hid (bk_gbC X2.out hg3 (fun k hk => by injection hk with hk; omega))
  have K3 := Lib.hid (K2.out.grown hg3 K2.out.size (fun k hk => by injection hk with hk; have := K0.out.size; omega))
  have ht := ht1 (by omega)
  obtain ⟨n, rfl⟩ := Int.eq_ofNat_of_zero_le ht0
  obtain ⟨d, hd⟩ : ∃ d : Nat, 1 + r = (d : Int) := ⟨(1 + r).toNat, by omega⟩
  obtain ⟨p, e', hp, he, h1, h2, h3, h4⟩ := chance_low n d (by omega) (by omega) (by omega)
  have HM := Lib.hid (fun W => l01FMake_any (n : Int) (1 + r) W (by omega) (by omega) (by omega) (by omega) (by omega))
  rw [hd, hp, he, ← hd] at HM
  clear hs3 hg3 S2 X2 K2 ht1 hp he hd
  go_wp2_with fail
  refine (HM.out _).mono ?_; rintro e w4 ⟨rfl, hb4⟩
  have X4 := Lib.hid (X3.out.keep hb4)
  have K4 := Lib.hid (K3.out.trans (hb4.mono K3.out.size))
  clear hb4
  obtain ⟨r0, r1⟩ := bk_twoP X4.out
  have f0 := X4.out.f 0 (by decide)
  have f1 := X4.out.f 1 (by decide)
  go_wp2_with fail
  simp [bodyPost, results, Try.results39, go_sem, r0, r1]
  exact ⟨p, e', ⟨rfl, rfl⟩, ⟨h1, h2, h3, h4⟩, (K4.out.setCell (p := ⟨w.heap.size, 0, none⟩) (Nat.le_refl _) _).setCell (p := ⟨w.heap.size, 1, none⟩) (Nat.le_refl _) _⟩
set_option maxRecDepth 100000 in
theorem b10Power_any (n m : Nat) (w : World) (hn : n ≤ 12) (hm : m ≤ 6) :
    Calls Try.prog 42 #[.int .i64 (n : Int), .int .i64 (m : Int)] w fun e w' => e = .returned (.int .i64 ((n ^ m : Nat) : Int)) ∧ w = w' := by
  go_enter Try.func42, Try.ntmps42
  go_wp2_with fail
  go_loop [1, 5] (fun i o => ∃ k j : Nat, k + j = m ∧ i = .int .i64 (j : Int) ∧ o = .int .i64 ((n ^ k : Nat) : Int)) (fun i _ => (intOf i).toNat)
  case atStart => exact ⟨0, m, by omega, rfl, rfl⟩
  case round =>
    obtain ⟨k, j, hk, rfl, rfl⟩ := hrel
    rcases Nat.eq_zero_or_pos j with hz | hz
    · subst hz
      obtain rfl : k = m := by omega
      go_wp2_with fail
      go_ret
      exact ⟨rfl, rfl⟩
    · obtain ⟨i, rfl⟩ : ∃ i, j = i + 1 := ⟨j - 1, by omega⟩
      have h1 : n ^ k ≤ 12 ^ 6 := Nat.le_trans (Nat.pow_le_pow_left hn k) (Nat.pow_le_pow_right (by decide) (by omega))
      have h2 : n ^ k * n ≤ 12 ^ 6 * 12 := Nat.mul_le_mul h1 hn
      have h3 : (12 : Nat) ^ 6 * 12 = 35831808 := by decide
      have e1 : ((n ^ k : Nat) : Int) * (n : Int) = ((n ^ (k + 1) : Nat) : Int) := by rw [Nat.pow_succ, Int.natCast_mul]
      have h4 : n ^ (k + 1) ≤ 35831808 := by rw [Nat.pow_succ]; omega
      have w1 : IntKind.i64.wrap (((n ^ k : Nat) : Int) * (n : Int)) = ((n ^ (k + 1) : Nat) : Int) := by rw [e1]; exact IntWalk.i64_in _ (by omega)
      have i1 : (0 : Int) < (i : Int) + 1 := by omega
      have w2 : IntKind.i64.wrap (i : Int) = (i : Int) := IntWalk.i64_in _ (by omega)
      have HR : Hid (((n ^ (k + 1) : Nat) : Int) = ((n ^ (k + 1) : Nat) : Int)) := rfl
      clear h1 h2 h3 h4 e1 hz HR
      obtain ⟨R1, hR1⟩ : ∃ R1, R1 = ((n ^ (k + 1) : Nat) : Int) := ⟨_, rfl⟩
      rw [← hR1] at w1
      have HR1 := Lib.hid hR1
      clear hR1
      generalize ((n ^ k : Nat) : Int) = R0 at *
      go_wp2_with fail
      go_round
      case rel => exact ⟨k + 1, i, by omega, by go_num, by rw [HR1.out]⟩
      case measure => simp [intOf]; try omega
theorem less_no (fn fd gn gd : Int) (hf : fIs fn fd = true) (hg : fIs gn gd = true) (h : gn * fd ≤ fn * gd) (w : World) :
    Calls Try.prog 41 #[.agg #[.int .i64 fn, .int .i64 fd], .agg #[.int .i64 gn, .int .i64 gd]] w fun e w' => e = .returned (.bool false) ∧ Below w.heap.size w w' := by
  have HC := Lib.hid (fun W => cmp_spec fn fd gn gd W)
  have h1 : cpB fn fd gn gd = true := decide_eq_true ⟨hf, hg⟩
  obtain ⟨V, hV⟩ : ∃ V, V = cpV fn fd gn gd := ⟨_, rfl⟩
  have h2 : ¬ V < 0 := by
    rw [hV]
    unfold cpV
    rw [if_pos ⟨hf, hg⟩]
    unfold sgn
    rw [Int.neg_mul]
    split <;> (try split) <;> omega
  rw [h1, ← hV] at HC
  have B0 := Lib.hid (((Below.refl w.heap.size w).alloc (Nat.le_refl _) (.cells #[.int .i64 fn, .int .i64 fd] 24)).alloc (by simp) (.cells #[.int .i64 gn, .int .i64 gd] 24))
  clear h1 hf hg h hV
  go_enter Try.func41, Try.ntmps41
  go_wp2_with fail
  refine (HC.out _).mono ?_; rintro e w1 ⟨rfl, hb1⟩
  have B1 := Lib.hid (B0.out.trans (hb1.mono B0.out.size))
  clear hb1
  go_wp2_with fail
  go_ret
  exact ⟨ret_bool (by first | rfl | exact decide_eq_false (by omega)), B1.out⟩
end Go.Proofs.Ytmhdjimdhcephab

namespace Go.Proofs.Ytmhdjimdhcephab
open Go Go.RowKit
set_option linter.unusedVariables false

theorem best_most : ∀ N, N < 7 → ∀ d, d < 13 → ∀ p, p < 13 → 1 ≤ N → p ≤ d → (N * p * (d - p) ^ (N - 1)) * (N * N ^ (N - 1)) ≤ (N * 1 * (N - 1) ^ (N - 1)) * (d * d ^ (N - 1)) := by decide +kernel
theorem lwS_small {P Q : Nat} (hP : P ≤ 1000000000) (hQ : Q ≤ 1000000000) : lwS P Q = (((P / Nat.gcd P Q : Nat) : Int), ((Q / Nat.gcd P Q : Nat) : Int), true) := by
  have h : lwK P Q = true := by
    unfold lwK
    have h1 := Nat.div_le_self P (Nat.gcd P Q)
    have h2 := Nat.div_le_self Q (Nat.gcd P Q)
    exact decide_eq_true ⟨by omega, by omega⟩
  unfold lwS; rw [h]; rfl
theorem pow_le6 {n m : Nat} (hn : n ≤ 12) (hm : m ≤ 6) : n ^ m ≤ 2985984 :=
  Nat.le_trans (Nat.le_trans (Nat.pow_le_pow_left hn m) (Nat.pow_le_pow_right (by decide) hm)) (by decide)
/-- Reduced fractions compare as whole ones. -/
theorem red_le {P2 Q2 P3 Q3 : Nat} (h2 : 0 < Q2) (h3 : 0 < Q3) (h : P2 * Q3 ≤ P3 * Q2) : (P2 / Nat.gcd P2 Q2) * (Q3 / Nat.gcd P3 Q3) ≤ (P3 / Nat.gcd P3 Q3) * (Q2 / Nat.gcd P2 Q2) := by
  obtain ⟨-, b2, e2⟩ := lw_red P2 Q2 h2
  obtain ⟨-, b3, e3⟩ := lw_red P3 Q3 h3
  generalize P2 / Nat.gcd P2 Q2 = x2 at *
  generalize Q2 / Nat.gcd P2 Q2 = y2 at *
  generalize P3 / Nat.gcd P3 Q3 = x3 at *
  generalize Q3 / Nat.gcd P3 Q3 = y3 at *
  refine Nat.le_of_mul_le_mul_right ?_ (Nat.mul_pos h2 h3)
  calc x2 * y3 * (Q2 * Q3) = (x2 * Q2) * (y3 * Q3) := by ac_rfl
    _ = (P2 * y2) * (y3 * Q3) := by rw [e2]
    _ = (P2 * Q3) * (y2 * y3) := by ac_rfl
    _ ≤ (P3 * Q2) * (y2 * y3) := Nat.mul_le_mul_right _ h
    _ = (P3 * y3) * (y2 * Q2) := by ac_rfl
    _ = (x3 * Q3) * (y2 * Q2) := by rw [e3]
    _ = x3 * y2 * (Q2 * Q3) := by ac_rfl
theorem ch_is {N p d : Nat} (h1 : 1 ≤ N) (h6 : N ≤ 6) (hd1 : 1 ≤ d) (hd : d ≤ 12) (hp : p ≤ d) (hg : Nat.gcd p d = 1) : qcS N p d = lwS ((d - p) ^ N) (d ^ N) ∧ scS N p d = lwS (N * p * (d - p) ^ (N - 1)) (d * d ^ (N - 1)) := by
  have hf : fIs (p : Int) (d : Int) = true := by rw [fIs_nat]; exact decide_eq_true ⟨hd1, by omega, by omega, hg⟩
  have hch : chB (N : Int) (p : Int) (d : Int) = true := by
    unfold chB rgB
    rw [hf, decide_eq_true (show (1 : Int) ≤ (N : Int) ∧ (N : Int) ≤ 12 by omega), decide_eq_true (show (0 : Int) ≤ (p : Int) by omega), decide_eq_true (show (p : Int) ≤ (d : Int) by omega)]
    rfl
  obtain ⟨N', p', q', d', e1, e2, e3, hd', a1, a2, a3, a4, cp, cq, hfq, hfp, s1, s2⟩ := ch_nat hch
  obtain rfl : N = N' := by omega
  obtain rfl : p = p' := by omega
  obtain rfl : d = d' := by omega
  obtain rfl : q' = d - p := by omega
  exact ⟨qc_eq hch rfl hd' a3 cq hfq s1 s2, sc_eq hch rfl rfl rfl hd' a3 a1 a2 cp cq hfq hfp s1 s2⟩
theorem ch_all {N p d : Nat} (h1 : 1 ≤ N) (h6 : N ≤ 6) (hd1 : 1 ≤ d) (hd : d ≤ 12) (hp : p ≤ d) (hg : Nat.gcd p d = 1) :
    ∃ x1 y1 x2 y2 x3 y3 : Int, qcS N p d = (x1, y1, true) ∧ scS N p d = (x2, y2, true) ∧ scS N 1 N = (x3, y3, true) ∧ fIs x3 y3 = true ∧ fIs x2 y2 = true ∧ x2 * y3 ≤ x3 * y2 ∧
      mkN (((d - p) ^ (N - 1) * (d - p) : Nat) : Int) ((d ^ N : Nat) : Int) = x1 ∧ mkD (((d - p) ^ (N - 1) * (d - p) : Nat) : Int) ((d ^ N : Nat) : Int) = y1 ∧
      mkN ((N * p * (d - p) ^ (N - 1) : Nat) : Int) ((d ^ N : Nat) : Int) = x2 ∧ mkD ((N * p * (d - p) ^ (N - 1) : Nat) : Int) ((d ^ N : Nat) : Int) = y2 ∧
      (d - p) ^ (N - 1) * (d - p) ≤ 1000000000 ∧ d ^ N ≤ 1000000000 ∧ 0 < d ^ N ∧ N * p * (d - p) ^ (N - 1) ≤ 1000000000 ∧ (d - p) ^ (N - 1) ≤ 1000000000 := by
  obtain ⟨q1, q2⟩ := ch_is h1 h6 hd1 hd hp hg
  obtain ⟨-, q3⟩ := ch_is h1 h6 h1 (by omega) h1 (Nat.gcd_one_left N)
  have k1 : (d - p) ^ (N - 1) ≤ 2985984 := pow_le6 (by omega) (by omega)
  have k2 : (d - p) ^ N ≤ 2985984 := pow_le6 (by omega) h6
  have k3 : d ^ N ≤ 2985984 := pow_le6 hd h6
  have k4 : d ^ (N - 1) ≤ 2985984 := pow_le6 hd (by omega)
  have k5 : N ^ (N - 1) ≤ 2985984 := pow_le6 (by omega) (by omega)
  have k6 : (N - 1) ^ (N - 1) ≤ 2985984 := pow_le6 (by omega) (by omega)
  have eN : N = (N - 1) + 1 := by omega
  have ed : d * d ^ (N - 1) = d ^ N := by rw [Nat.mul_comm, ← Nat.pow_succ, show (N - 1).succ = N from by omega]
  have eq' : (d - p) ^ (N - 1) * (d - p) = (d - p) ^ N := by rw [← Nat.pow_succ, show (N - 1).succ = N from by omega]
  have eNN : N * N ^ (N - 1) = N ^ N := by rw [Nat.mul_comm, ← Nat.pow_succ, show (N - 1).succ = N from by omega]
  have hNN : N ^ N ≤ 2985984 := pow_le6 (by omega) h6
  have hNp : N * p ≤ 72 := Nat.mul_le_mul h6 (Nat.le_trans hp hd)
  have k7 : N * p * (d - p) ^ (N - 1) ≤ 72 * 2985984 := Nat.mul_le_mul hNp k1
  have k8 : N * 1 * (N - 1) ^ (N - 1) ≤ 6 * 2985984 := Nat.mul_le_mul (by omega) k6
  have hpos : 0 < d ^ N := Nat.pow_pos hd1
  have hposN : 0 < N ^ N := Nat.pow_pos h1
  have hb := best_most N (by omega) d (by omega) p (by omega) h1 hp
  rw [ed] at q2 hb
  rw [eNN] at q3 hb
  rw [lwS_small (by omega) (by omega)] at q1 q2 q3
  have f2 := lwS_fIs (P := N * p * (d - p) ^ (N - 1)) hpos
  have f3 := lwS_fIs (P := N * 1 * (N - 1) ^ (N - 1)) hposN
  rw [lwS_small (by omega) (by omega)] at f2 f3
  have hle := red_le hpos hposN hb
  refine ⟨_, _, _, _, _, _, q1, q2, q3, f3, f2, ?_, ?_, ?_, mkN_nat _ _, mkD_nat _ _, by omega, by omega, hpos, by omega, by omega⟩
  · rw [← Int.natCast_mul, ← Int.natCast_mul]; exact Int.ofNat_le.2 hle
  · rw [eq']; exact mkN_nat _ _
  · rw [eq']; exact mkD_nat _ _
end Go.Proofs.Ytmhdjimdhcephab

namespace Go.Proofs.Ytmhdjimdhcephab
open Go Go.RowKit
set_option linter.unusedVariables false

/-- Boxes of fractions. -/
def Bxs (W : World) (L : List (Nat × Int × Int)) : Prop := ∀ x ∈ L, Bk W x.1 [.int .i64 x.2.1, .int .i64 x.2.2]
theorem Bxs.keep {W W' : World} {L : List (Nat × Int × Int)} (h : Bxs W L) (hb : Below W.heap.size W W') : Bxs W' L := fun x hx => (h x hx).keep hb
theorem Bxs.cons {W : World} {L : List (Nat × Int × Int)} (h : Bxs W L) (x y : Int) (t : TypeId) : Bxs (W.alloc (.cells #[.int .i64 x, .int .i64 y] t)) ((W.heap.size, x, y) :: L) := by
  intro z hz
  rcases List.mem_cons.1 hz with rfl | hz
  · exact Bk.new W [.int .i64 x, .int .i64 y] t W.heap.size rfl
  · exact (h z hz).alloc _
theorem Bxs.c {W : World} {L : List (Nat × Int × Int)} (h : Bxs W L) (b : Nat) (x y : Int) (hm : (b, x, y) ∈ L) : W.cell? ⟨b, 0, none⟩ = some (.int .i64 x) ∧ W.cell? ⟨b, 1, none⟩ = some (.int .i64 y) := bk_twoP (h _ hm)
set_option maxHeartbeats 4000000 in
set_option maxRecDepth 100000 in
theorem law_FnChances (v0 : Value) (l0 : List Value) (k0 : ∀ x ∈ l0, ∃ y : Int, x = .int .u8 y ∧ 0 ≤ y ∧ y ≤ 255) (v1 : Value) (l1 : List Value) (k1 : ∀ x ∈ l1, ∃ y : Int, x = .int .u8 y ∧ 0 ≤ y ∧ y ≤ 255) (w : World) (r0 : RdV (· < w.heap.size) w v0 l0) (r1 : RdV (· < w.heap.size) w v1 l1) :
    Calls Try.prog 10 #[v0, v1] w fun e w' => e = .returned (.bool true) ∧ Below w.heap.size w w' := by
  have HR0 := Lib.hid r0
  have HR1 := Lib.hid r1
  have HK0 := Lib.hid k0
  have HK1 := Lib.hid k1
  obtain ⟨A0, n0, c0, rfl, hn0, -⟩ := r0
  obtain ⟨A1, n1, c1, rfl, hn1, -⟩ := r1
  clear k0 k1 hn0 hn1
  have HL := Lib.hid (fun W => b10Long_any W A0 A1 n0 c0 n1 c1)
  by_cases hz : 1048576 < n0 ∨ 1048576 < n1
  · have hz' : (decide (1048576 < n0) || decide (1048576 < n1)) = true := by rcases hz with h | h <;> simp [h]
    rw [hz'] at HL
    clear hz hz'
    go_enter Try.func10, Try.ntmps10
    go_wp2_with fail
    refine (HL.out _).mono ?_; rintro e w1 ⟨rfl, q, rfl⟩
    go_wp2_with fail
    go_ret
    exact ⟨rfl, below_dn (Below.refl _ _) q⟩
  · have hz' : (decide (1048576 < n0) || decide (1048576 < n1)) = false := by simp; omega
    rw [hz'] at HL
    clear hz hz'
    have h0 : 0 ≤ b10N l0 0 6 ∧ b10N l0 0 6 < 6 := by
      unfold b10N
      split <;> (constructor <;> first | omega | exact Int.emod_nonneg _ (by omega) | exact Int.emod_lt_of_pos _ (by omega))
    have HA : Hid (∀ W, Below w.heap.size w W → Calls Try.prog 38 #[.slice A0 n0 c0, .int .i64 0, .int .i64 6] W fun e w' => e = .returned (.int .i64 (b10N l0 0 6)) ∧ W = w') := by
      show ∀ W, _
      intro W hb
      exact (b10At_any W _ l0 0 6 (by decide) (by decide) (HR0.out.keep hb) HK0.out).mono fun e w' ⟨he, _, hw⟩ => ⟨he, hw⟩
    obtain ⟨N, hN⟩ : ∃ N : Nat, 1 + b10N l0 0 6 = (N : Int) := ⟨(1 + b10N l0 0 6).toNat, by omega⟩
    have hN1 : 1 ≤ N ∧ N ≤ 6 := by omega
    have wa : IntKind.i64.wrap (1 + b10N l0 0 6) = (N : Int) := by rw [hN]; exact IntWalk.i64_in _ (by omega)
    clear h0 hN
    generalize b10N l0 0 6 = x0 at *
    go_enter Try.func10, Try.ntmps10
    go_wp2_with fail
    refine (HL.out _).mono ?_; rintro e w0 ⟨rfl, q, rfl⟩
    have B0 : Hid (Below w.heap.size w (w.drewN q)) := below_dn (Below.refl _ _) q
    go_wp2_with fail
    refine (HA.out _ B0.out).mono ?_; rintro e w' ⟨rfl, rfl⟩
    go_wp2_with fail
    refine (b10Chance_any _ _ _ (rdv_keepC HR1.out B0.out) HK1.out).mono ?_; rintro e w1 ⟨p, d, rfl, ⟨hd1, hd12, hpd, hg⟩, hb1⟩
    have B1 := Lib.hid (B0.out.trans (hb1.mono B0.out.size))
    clear hb1 B0
    obtain ⟨x1, y1, x2, y2, x3, y3, e1, e2, e3, f3, f2, hle, m1, m2, m3, m4, b1, b2, b3, b4, b5⟩ := ch_all hN1.1 hN1.2 hd1 hd12 hpd hg
    have HQ := Lib.hid (fun W => quiet_impl (N : Int) (p : Int) (d : Int) W (by omega) (by omega))
    rw [e1] at HQ
    have HS := Lib.hid (fun W => success_impl (N : Int) (p : Int) (d : Int) W (by omega) (by omega))
    rw [e2] at HS
    have HB := Lib.hid (fun W => best_impl (N : Int) W)
    have hbN : rgB 1 12 (N : Int) = true := decide_eq_true (by omega)
    have e4 : bsN (N : Int) = 1 := by unfold bsN; rw [hbN]; rfl
    have e5 : bsD (N : Int) = N := by unfold bsD; rw [hbN]; rfl
    rw [e4, e5, hbN] at HB
    have HT := Lib.hid (fun W => success_impl (N : Int) 1 (N : Int) W (by omega) (by omega))
    rw [e3] at HT
    have HLS := Lib.hid (fun W => less_no x3 y3 x2 y2 f3 f2 (by have := Int.mul_comm x3 y2; omega) W)
    have HP1 := Lib.hid (fun W => b10Power_any (d - p) (N - 1) W (by omega) (by omega))
    have HP2 := Lib.hid (fun W => b10Power_any d N W hd12 hN1.2)
    have HM1 := Lib.hid (fun W => make_yes_spec (((d - p) ^ (N - 1) * (d - p) : Nat) : Int) ((d ^ N : Nat) : Int) W (by omega) (by omega) (by omega) (by omega) (by omega))
    rw [m1, m2] at HM1
    have HM2 := Lib.hid (fun W => make_yes_spec ((N * p * (d - p) ^ (N - 1) : Nat) : Int) ((d ^ N : Nat) : Int) W (by omega) (by omega) (by omega) (by omega) (by omega))
    rw [m3, m4] at HM2
    have hNp : N * p ≤ 72 := Nat.mul_le_mul hN1.2 (Nat.le_trans hpd hd12)
    have w1q : IntKind.i64.wrap ((d : Int) - (p : Int)) = ((d - p : Nat) : Int) := by rw [show (d : Int) - (p : Int) = ((d - p : Nat) : Int) by omega]; exact IntWalk.i64_in _ (by omega)
    have w2q : IntKind.i64.wrap ((N : Int) - 1) = ((N - 1 : Nat) : Int) := by rw [show (N : Int) - 1 = ((N - 1 : Nat) : Int) by omega]; exact IntWalk.i64_in _ (by omega)
    have w3q : IntKind.i64.wrap ((((d - p) ^ (N - 1) : Nat) : Int) * ((d - p : Nat) : Int)) = (((d - p) ^ (N - 1) * (d - p) : Nat) : Int) := by rw [← Int.natCast_mul]; exact IntWalk.i64_in _ (by omega)
    have w4q : IntKind.i64.wrap ((N : Int) * (p : Int)) = ((N * p : Nat) : Int) := by rw [← Int.natCast_mul]; exact IntWalk.i64_in _ (by omega)
    have w5q : IntKind.i64.wrap (((N * p : Nat) : Int) * (((d - p) ^ (N - 1) : Nat) : Int)) = ((N * p * (d - p) ^ (N - 1) : Nat) : Int) := by rw [← Int.natCast_mul]; exact IntWalk.i64_in _ (by omega)
    clear e1 e2 e3 e4 e5 f2 f3 hle m1 m2 m3 m4 b1 b2 b3 b4 b5 hN1 hd1 hd12 hpd hg hbN hNp wa HA
    generalize (((d - p) ^ (N - 1) * (d - p) : Nat) : Int) = R2 at *
    generalize ((N * p * (d - p) ^ (N - 1) : Nat) : Int) = R3 at *
    generalize (((d - p) ^ (N - 1) : Nat) : Int) = R1 at *
    generalize ((d ^ N : Nat) : Int) = R4 at *
    generalize ((N * p : Nat) : Int) = R5 at *
    generalize ((d - p : Nat) : Int) = R6 at *
    generalize ((N - 1 : Nat) : Int) = R7 at *
    generalize (N : Int) = N at *
    generalize (p : Int) = p at *
    generalize (d : Int) = d at *
    have V1 : Hid (Bxs w1 []) := fun x hx => by cases hx
    have U1 := Lib.hid (V1.out.cons p d 24)
    have C1 := Lib.hid (B1.out.alloc B1.out.size (.cells #[.int .i64 p, .int .i64 d] 24))
    obtain ⟨s_w1, t_w1⟩ := U1.out.c (w1.heap.size) p d (by simp)
    go_wp2_with fail
    refine (HQ.out _).mono ?_; rintro e w2 ⟨rfl, hb2⟩
    have V2 := Lib.hid (U1.out.keep hb2)
    have B2 := Lib.hid (C1.out.trans (hb2.mono C1.out.size))
    clear hb2
    clear s_w1 t_w1
    have U2 := Lib.hid (V2.out.cons x1 y1 24)
    have C2 := Lib.hid (B2.out.alloc B2.out.size (.cells #[.int .i64 x1, .int .i64 y1] 24))
    obtain ⟨s_w1, t_w1⟩ := U2.out.c (w1.heap.size) p d (by simp)
    go_wp2_with fail
    refine (HS.out _).mono ?_; rintro e w3 ⟨rfl, hb3⟩
    have V3 := Lib.hid (U2.out.keep hb3)
    have B3 := Lib.hid (C2.out.trans (hb3.mono C2.out.size))
    clear hb3
    clear s_w1 t_w1
    have U3 := Lib.hid (V3.out.cons x2 y2 24)
    have C3 := Lib.hid (B3.out.alloc B3.out.size (.cells #[.int .i64 x2, .int .i64 y2] 24))
    go_wp2_with fail
    refine (HB.out _).mono ?_; rintro e w4 ⟨rfl, hb4⟩
    have V4 := Lib.hid (U3.out.keep hb4)
    have B4 := Lib.hid (C3.out.trans (hb4.mono C3.out.size))
    clear hb4
    have U4 := Lib.hid (V4.out.cons 1 N 24)
    have C4 := Lib.hid (B4.out.alloc B4.out.size (.cells #[.int .i64 1, .int .i64 N] 24))
    obtain ⟨s_w4, t_w4⟩ := U4.out.c (w4.heap.size) 1 N (by simp)
    go_wp2_with fail
    refine (HT.out _).mono ?_; rintro e w5 ⟨rfl, hb5⟩
    have V5 := Lib.hid (U4.out.keep hb5)
    have B5 := Lib.hid (C4.out.trans (hb5.mono C4.out.size))
    clear hb5
    clear s_w4 t_w4
    have U5 := Lib.hid (V5.out.cons x3 y3 24)
    have C5 := Lib.hid (B5.out.alloc B5.out.size (.cells #[.int .i64 x3, .int .i64 y3] 24))
    obtain ⟨s_w5, t_w5⟩ := U5.out.c (w5.heap.size) x3 y3 (by simp)
    obtain ⟨s_w3, t_w3⟩ := U5.out.c (w3.heap.size) x2 y2 (by simp)
    go_wp2_with fail
    refine (HLS.out _).mono ?_; rintro e w6 ⟨rfl, hb6⟩
    have V6 := Lib.hid (U5.out.keep hb6)
    have B6 := Lib.hid (C5.out.trans (hb6.mono C5.out.size))
    clear hb6
    clear s_w5 t_w5 s_w3 t_w3
    have U6 := Lib.hid V6.out
    have C6 := Lib.hid B6.out
    obtain ⟨s_w1, t_w1⟩ := U6.out.c (w1.heap.size) p d (by simp)
    go_wp2_with fail
    refine (HP1.out _).mono ?_; rintro e w' ⟨rfl, rfl⟩
    go_wp2_with fail
    refine (HP2.out _).mono ?_; rintro e w' ⟨rfl, rfl⟩
    go_wp2_with fail
    refine (HM1.out _).mono ?_; rintro e w7 ⟨rfl, hb7⟩
    have V7 := Lib.hid (U6.out.keep hb7)
    have B7 := Lib.hid (C6.out.trans (hb7.mono C6.out.size))
    clear hb7
    clear s_w1 t_w1
    have U7 := Lib.hid (V7.out.cons x1 y1 24)
    have C7 := Lib.hid (B7.out.alloc B7.out.size (.cells #[.int .i64 x1, .int .i64 y1] 24))
    obtain ⟨s_w1, t_w1⟩ := U7.out.c (w1.heap.size) p d (by simp)
    go_wp2_with fail
    refine (HM2.out _).mono ?_; rintro e w8 ⟨rfl, hb8⟩
    have V8 := Lib.hid (U7.out.keep hb8)
    have B8 := Lib.hid (C7.out.trans (hb8.mono C7.out.size))
    clear hb8
    clear s_w1 t_w1
    have U8 := Lib.hid (V8.out.cons x2 y2 24)
    have C8 := Lib.hid (B8.out.alloc B8.out.size (.cells #[.int .i64 x2, .int .i64 y2] 24))
    obtain ⟨s_w2, t_w2⟩ := U8.out.c (w2.heap.size) x1 y1 (by simp)
    obtain ⟨s_w3, t_w3⟩ := U8.out.c (w3.heap.size) x2 y2 (by simp)
    obtain ⟨s_w7, t_w7⟩ := U8.out.c (w7.heap.size) x1 y1 (by simp)
    obtain ⟨s_w8, t_w8⟩ := U8.out.c (w8.heap.size) x2 y2 (by simp)
    go_wp2_with fail
    go_ret
    exact ⟨rfl, C8.out⟩
end Go.Proofs.Ytmhdjimdhcephab

namespace Go.Proofs.Ytmhdjimdhcephab.fnChances
open Go.ChangeShapes Go.WideShapes Go.ChangeAt Go.RowKit
open Go.ChangeMaps (open_string shut_string)
set_option linter.unusedVariables false

theorem laid : laidOutB Try.prog = true := by kernel_rfl
theorem own : ownKnob Try.prog.godebug = none := by kernel_rfl
set_option maxRecDepth 100000 in
theorem lifted (os : Os) (started : os.Started) (H : Type) (enc : TypeId × Value → H) :
    ReturnsInHanded {} Try.checked os 10 .any (Rows.fnChancesSpec.pre6 enc Try.prog Try.f10 Rows.fnChancesRow.domain false) (Rows.fnChancesSpec.post enc Try.prog Try.f10 false true false false) := by
  refine returnsInHanded_of_change (C := Try.checked) own started (by kernel_rfl) Try.func10
    (ChangeSpec.witness6 (enc := enc) (C := Try.checked) false ⟨#[], #[.slice none 0 0, .slice none 0 0], []⟩ 8 (by kernel_rfl) (by kernel_rfl) (by kernel_rfl) (by kernel_rfl)) ?_
  intro W base args ds gs before hval0 hW hcnd _
  have hval : ∀ (j : Nat) t v, Try.f10.params[j]? = some t → args[j]? = some v → Value.okWide Try.prog W .any base t v := hval0
  have hW' := hW
  obtain ⟨p, q, hA0, hV, rfl, hfz, hnd⟩ := hW
  have hA : DataW.TrodAll enc Try.prog W 0 (fun _ => true) true Try.f10.params.toList args.toList ds p := hA0
  rw [Try.params10] at hA hval
  obtain ⟨v0, vs0, d0, ds0, p0, q0, hargs, rfl, rfl, h0, r0⟩ := trodAll_cons hA
  obtain ⟨v1, vs1, d1, ds1, p1, q1, rfl, rfl, rfl, h1, r1⟩ := trodAll_cons r0
  obtain ⟨rfl, rfl, rfl⟩ := trodAll_nil r1
  obtain rfl : args = #[v0, v1] := by cases args; simp_all
  obtain ⟨rfl, rfl⟩ := trodVars_none hV
  have kk0 := h0
  obtain ⟨ao0, len0, cap0, rfl⟩ := okWide_slice Try.underlying47 (hval 0 47 v0 rfl rfl)
  obtain ⟨fuel0, hf0⟩ := h0
  obtain ⟨l0, R0, F0⟩ := bytes_open (v := .slice ao0 len0 cap0) (by simpa [Value.cells] using hf0)
  have kk1 := h1
  obtain ⟨ao1, len1, cap1, rfl⟩ := okWide_slice Try.underlying47 (hval 1 47 v1 rfl rfl)
  obtain ⟨fuel1, hf1⟩ := h1
  obtain ⟨l1, R1, F1⟩ := bytes_open (v := .slice ao1 len1 cap1) (by simpa [Value.cells] using hf1)
  clear hA0 hval0
  refine (law_FnChances _ l0 F0 _ l1 F1 W R0 R1).mono fun e W' ⟨he, bel⟩ => ?_
  subst he
  exact ⟨_, rfl, _, _, _, [], _, [], hW', trodAll_mk1 (shut_bool Try.underlying4 _), (trodAll_cons_mk (Go.RowKit.Below.trod laid (by kernel_rfl) (of_decide_eq_true (by kernel_rfl)) kk0 bel (fun x hx => DataW.trod_lt _ _ _ _ kk0.choose_spec x hx)) (trodAll_cons_mk (Go.RowKit.Below.trod laid (by kernel_rfl) (of_decide_eq_true (by kernel_rfl)) kk1 bel (fun x hx => DataW.trod_lt _ _ _ _ kk1.choose_spec x hx)) trodAll_mk0)), rfl, bel.frame _, fun h => by cases h⟩

theorem over : Rows.fnChancesRow.holds Try.pinned (OpenSpec.ofChange Rows.fnChancesSpec) :=
  OpenClaim.holds_of_wide 10 Try.f10 rfl rfl rfl rfl rfl rfl rfl ⟨rfl, rfl, rfl, rfl, rfl⟩ rfl rfl rfl rfl rfl (by kernel_rfl) Try.func10 (by kernel_rfl)
    (of_decide_eq_true (by kernel_rfl)) (by unfold Func.isWrapper; first | (rw [if_pos (by decide +kernel)]; kernel_rfl) | (rw [if_neg (by decide +kernel)]; exact ⟨rfl, rfl⟩))
    (fun os started H enc _ => lifted os started H enc)

/-- The statement. -/
theorem proved : Rows.FnChancesSaid := over
#print axioms proved
end Go.Proofs.Ytmhdjimdhcephab.fnChances

