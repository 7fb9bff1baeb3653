/- Plain facts on the order of x and on the part of a polynomial without factors x, without the program. -/
import Derived.Test.YtnpigefbdadjfaaDoorGfP
namespace Go.Proofs.YtnpigefbdadjfaaDoor
set_option linter.unusedVariables false
set_option linter.unusedSimpArgs false

theorem php8 : ∀ (n : Nat) (f : Nat → Nat), (∀ i, i ≤ n → f i < n) → ∃ i j, i < j ∧ j ≤ n ∧ f i = f j
  | 0, f, h => absurd (h 0 (Nat.le_refl _)) (by omega)
  | n + 1, f, h => by
    by_cases he : ∃ i, i ≤ n ∧ f i = f (n + 1)
    · obtain ⟨i, hi, e⟩ := he
      exact ⟨i, n + 1, by omega, Nat.le_refl _, e⟩
    · obtain ⟨i, j, hij, hj, e⟩ := php8 n (fun i => if f i = n then f (n + 1) else f i) (fun i hi => by
        have h1 := h i (by omega)
        have h2 := h (n + 1) (Nat.le_refl _)
        show (if f i = n then f (n + 1) else f i) < n
        split
        · rename_i e
          have : f (n + 1) ≠ n := fun e2 => he ⟨i, hi, by omega⟩
          omega
        · omega)
      refine ⟨i, j, hij, by omega, ?_⟩
      have e : (if f i = n then f (n + 1) else f i) = (if f j = n then f (n + 1) else f j) := e
      split at e <;> split at e
      · omega
      · exact absurd ⟨j, by omega, e.symm⟩ he
      · exact absurd ⟨i, by omega, e⟩ he
      · exact e
theorem rd_pow_succ (p d k : Nat) : rd p d (2 ^ (k + 1)) = nxR p d (rd p d (2 ^ k)) 0 := by
  rw [← rd_two _ _ _ _ (by omega), Nat.pow_succ, Nat.add_zero, Nat.mul_comm]
theorem rd_one {p d : Nat} (h : Deg p d) : rd p d (2 ^ 0) = 1 := rd_small h _ (by have := h.one; exact Nat.one_lt_two_pow (by omega))
theorem rd_back {p d : Nat} (h : Deg p d) (ho : p % 2 = 1) : ∀ i m, rd p d (2 ^ (i + m)) = rd p d (2 ^ i) → rd p d (2 ^ m) = 1
  | 0, m, e => by rw [Nat.zero_add, rd_one h] at e; exact e
  | i + 1, m, e => by
    rw [show i + 1 + m = (i + m) + 1 by omega, rd_pow_succ, rd_pow_succ] at e
    exact rd_back h ho i m (nxR_inj h ho _ _ (rd_lt h _) (rd_lt h _) e)
theorem ord_some {p d : Nat} (h : Deg p d) (ho : p % 2 = 1) : ∃ k, k < 2 ^ d ∧ rd p d (2 ^ (k + 1)) = 1 := by
  obtain ⟨i, j, hij, hj, e⟩ := php8 (2 ^ d) (fun k => rd p d (2 ^ k)) (fun k _ => rd_lt h _)
  refine ⟨j - i - 1, by omega, ?_⟩
  rw [show j - i - 1 + 1 = j - i by omega]
  refine rd_back h ho i (j - i) ?_
  rw [show i + (j - i) = j by omega]
  exact e.symm
/-- The order of x. -/
def ordN (p d : Nat) : Nat := ((List.range (2 ^ d)).find? (fun k => decide (rd p d (2 ^ (k + 1)) = 1))).getD 0 + 1
theorem find_range (f : Nat → Bool) : ∀ (n k : Nat), k < n → f k = true → (∀ j, j < k → f j = false) → (List.range n).find? f = some k := by
  intro n k hk hf hn
  obtain ⟨m, rfl⟩ : ∃ m, n = k + 1 + m := ⟨n - k - 1, by omega⟩
  rw [List.find?_eq_some_iff_append]
  refine ⟨hf, List.range k, (List.range m).map (fun x => k + 1 + x), ?_, fun a ha => by simpa using hn a (by simpa using ha)⟩
  rw [List.range_add, List.range_succ]
  simp
theorem least_of (f : Nat → Bool) : ∀ n, f n = true → ∃ k, k ≤ n ∧ f k = true ∧ ∀ j, j < k → f j = false := by
  intro n
  induction n using Nat.strongRecOn with
  | ind n ih =>
    intro h
    by_cases hn : ∃ j, j < n ∧ f j = true
    · obtain ⟨j, hj, e⟩ := hn
      obtain ⟨k, a, b, c⟩ := ih j hj e
      exact ⟨k, by omega, b, c⟩
    · refine ⟨n, Nat.le_refl _, h, fun j hj => ?_⟩
      cases e : f j
      · rfl
      · exact absurd ⟨j, hj, e⟩ hn
theorem ord_is {p d : Nat} (k : Nat) (hk : k < 2 ^ d) (h1 : rd p d (2 ^ (k + 1)) = 1) (h2 : ∀ j, j < k → rd p d (2 ^ (j + 1)) ≠ 1) : ordN p d = k + 1 := by
  unfold ordN
  rw [find_range _ _ k hk (decide_eq_true h1) (fun j hj => decide_eq_false (h2 j hj))]; rfl
theorem ord_facts {p d : Nat} (h : Deg p d) (ho : p % 2 = 1) : 1 ≤ ordN p d ∧ ordN p d ≤ 2 ^ d ∧ rd p d (2 ^ ordN p d) = 1 ∧ ∀ j, 1 ≤ j → j < ordN p d → rd p d (2 ^ j) ≠ 1 := by
  obtain ⟨k, hk, e⟩ := ord_some h ho
  obtain ⟨m, hm, e2, hn⟩ := least_of (fun k => decide (rd p d (2 ^ (k + 1)) = 1)) k (decide_eq_true e)
  have e3 := of_decide_eq_true e2
  have hn2 : ∀ j, j < m → rd p d (2 ^ (j + 1)) ≠ 1 := fun j hj => of_decide_eq_false (hn j hj)
  have ho := ord_is m (by omega) e3 hn2
  rw [ho]
  refine ⟨by omega, by omega, e3, fun j h1 h2 => ?_⟩
  have := hn2 (j - 1) (by omega)
  rwa [show j - 1 + 1 = j by omega] at this
/-- A number without its factors 2. -/
def odp (n : Nat) : Nat := if h : n ≠ 0 ∧ n % 2 = 0 then odp (n / 2) else n
termination_by n
decreasing_by omega
theorem odp_even {n : Nat} (h : n ≠ 0) (h2 : n % 2 = 0) : odp n = odp (n / 2) := by rw [odp, dif_pos ⟨h, h2⟩]
theorem odp_odd {n : Nat} (h2 : n % 2 = 1) : odp n = n := by rw [odp, dif_neg (by omega)]
/-- How long the shortest burst is. -/
def smN (n : Nat) : Nat := Nat.log2 (odp n) + 1
theorem log2_twice {n : Nat} (h : 0 < n) : Nat.log2 (2 * n) = Nat.log2 n + 1 := by
  rw [Nat.log2_def (2 * n), if_pos (by omega), show 2 * n / 2 = n by omega]
theorem sm_parts : ∀ (t q : Nat), q % 2 = 1 → smN (q * 2 ^ t) = Nat.log2 q + 1 ∧ Nat.log2 (q * 2 ^ t) = Nat.log2 q + t
  | 0, q, h => by simp [smN, odp_odd h]
  | t + 1, q, h => by
    obtain ⟨a, b⟩ := sm_parts t q h
    have hp : 0 < q * 2 ^ t := Nat.mul_pos (by omega) (Nat.two_pow_pos t)
    have e : q * 2 ^ (t + 1) = 2 * (q * 2 ^ t) := by rw [Nat.pow_succ, ← Nat.mul_assoc, Nat.mul_comm]
    rw [e]
    constructor
    · unfold smN at a ⊢
      rw [odp_even (by omega) (by omega), show 2 * (q * 2 ^ t) / 2 = q * 2 ^ t by omega]; exact a
    · rw [log2_twice hp, b]; omega
theorem odd_part : ∀ (n : Nat), 0 < n → ∃ t q, q % 2 = 1 ∧ n = q * 2 ^ t := by
  intro n
  induction n using Nat.strongRecOn with
  | ind n ih =>
    intro h0
    by_cases h2 : n % 2 = 1
    · exact ⟨0, n, h2, by simp⟩
    · obtain ⟨t, q, hq, e⟩ := ih (n / 2) (by omega) (by omega)
      refine ⟨t + 1, q, hq, ?_⟩
      rw [Nat.pow_succ, ← Nat.mul_assoc, ← e]; omega
theorem deg_log {n : Nat} (h : 2 ≤ n) : Deg n (Nat.log2 n) := by
  refine ⟨Nat.log2_self_le (by omega), Nat.lt_log2_self, ?_⟩
  rw [Nat.log2_def, if_pos (by omega)]; omega
theorem log_is {n d : Nat} (h : Deg n d) : Nat.log2 n = d := by
  have h2 : 2 ≤ n := by
    have := Nat.pow_le_pow_right (show 0 < 2 by omega) h.one
    have := h.lo
    omega
  have g := deg_log h2
  rcases Nat.lt_trichotomy (Nat.log2 n) d with h3 | h3 | h3
  · have := Nat.pow_le_pow_right (show 0 < 2 by omega) (show Nat.log2 n + 1 ≤ d by omega)
    have := g.hi; have := h.lo; omega
  · exact h3
  · have := Nat.pow_le_pow_right (show 0 < 2 by omega) (show d + 1 ≤ Nat.log2 n by omega)
    have := g.lo; have := h.hi; omega
end Go.Proofs.YtnpigefbdadjfaaDoor
