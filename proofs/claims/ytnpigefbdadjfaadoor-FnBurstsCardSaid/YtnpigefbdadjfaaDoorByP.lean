/- Plain facts on the bytes of bits, without the program. -/
import Derived.Test.YtnpigefbdadjfaaDoorGfP
namespace Go.Proofs.YtnpigefbdadjfaaDoor
set_option linter.unusedVariables false
set_option linter.unusedSimpArgs false

/-- The bytes of a number, the greatest first. -/
def dby (N n : Nat) : List Nat := (List.range n).map (fun j => N / 256 ^ (n - 1 - j) % 256)
theorem dby_len (N n : Nat) : (dby N n).length = n := by simp [dby]
theorem dby_lt (N n : Nat) : ∀ b ∈ dby N n, b < 256 := by
  intro b hb
  unfold dby at hb
  obtain ⟨j, _, rfl⟩ := List.mem_map.1 hb
  exact Nat.mod_lt _ (by decide)
theorem dby_zero (n : Nat) : dby 0 n = List.replicate n 0 := by
  unfold dby
  refine List.ext_getElem (by simp) fun k h1 h2 => by simp
theorem dby_succ (N n : Nat) : dby N (n + 1) = N / 256 ^ n % 256 :: dby N n := by
  unfold dby
  rw [List.range_succ_eq_map, List.map_cons, List.map_map]
  congr 1
  refine List.map_congr_left fun j hj => ?_
  have : j < n := by simpa using hj
  show N / 256 ^ (n + 1 - 1 - (j + 1)) % 256 = _
  rw [show n + 1 - 1 - (j + 1) = n - 1 - j by omega]
theorem vb_eq : ∀ (B : List Nat) (a : Nat), vb B a = a * 256 ^ B.length + vb B 0
  | [], a => by simp [vb]
  | b :: B, a => by
    show vb B (a * 256 + b) = a * 256 ^ (B.length + 1) + vb B (0 * 256 + b)
    rw [vb_eq B (a * 256 + b), vb_eq B (0 * 256 + b), Nat.pow_succ, Nat.add_mul, Nat.zero_mul, Nat.zero_add, Nat.mul_assoc, Nat.mul_comm 256]
    omega
theorem vb_dby (N : Nat) : ∀ n, vb (dby N n) 0 = N % 256 ^ n
  | 0 => by simp [dby, vb, Nat.mod_one]
  | n + 1 => by
    rw [dby_succ]
    show vb (dby N n) (0 * 256 + N / 256 ^ n % 256) = _
    rw [Nat.zero_mul, Nat.zero_add, vb_eq, vb_dby N n, dby_len, Nat.pow_succ, Nat.mod_mul]
    rw [Nat.mul_comm (N / 256 ^ n % 256)]; omega
theorem byte_bit (N m t : Nat) : (N / 256 ^ m % 256).testBit t = (decide (t < 8) && N.testBit (8 * m + t)) := by
  rw [show (256 : Nat) ^ m = 2 ^ (8 * m) by rw [Nat.pow_mul], show (256 : Nat) = 2 ^ 8 from rfl, Nat.testBit_mod_two_pow, Nat.testBit_div_two_pow, Nat.add_comm t]
/-- One bit more in the bytes. -/
theorem dby_set (N n b k : Nat) (hb : b < 2) (hk : k < 8 * n) : dby (N ||| b * 2 ^ k) n = (dby N n).set (n - 1 - k / 8) ((dby N n).getD (n - 1 - k / 8) 0 ||| b * 2 ^ (k % 8)) := by
  refine List.ext_getElem (by simp [dby_len]) fun j h1 h2 => ?_
  have hj : j < n := by rw [dby_len] at h1; exact h1
  have hkn : k / 8 < n := by omega
  rw [List.getElem_set]
  have hg : ∀ (M i : Nat) (h : i < (dby M n).length), (dby M n)[i] = M / 256 ^ (n - 1 - i) % 256 := by intro M i h; simp [dby]
  have hgd : (dby N n).getD (n - 1 - k / 8) 0 = N / 256 ^ (k / 8) % 256 := by
    rw [List.getD_eq_getElem?_getD, List.getElem?_eq_getElem (by rw [dby_len]; omega), Option.getD_some, hg, show n - 1 - (n - 1 - k / 8) = k / 8 by omega]
  rw [hg]
  have hy : ∀ m t, (b * 2 ^ k / 256 ^ m % 256).testBit t = (decide (t < 8) && (decide (b = 1) && decide (8 * m + t = k))) := by
    intro m t
    rw [byte_bit]
    rcases (show b = 0 ∨ b = 1 by omega) with rfl | rfl
    · simp
    · rw [Nat.one_mul, Nat.testBit_two_pow]; simp [eq_comm]
  split
  · rename_i e
    rw [hgd]
    have em : n - 1 - j = k / 8 := by omega
    rw [em]
    refine Nat.eq_of_testBit_eq fun t => ?_
    rw [byte_bit, Nat.testBit_or, Nat.testBit_or, byte_bit]
    have hb2 : (b * 2 ^ k).testBit (8 * (k / 8) + t) = (decide (b = 1) && decide (8 * (k / 8) + t = k)) := by
      rcases (show b = 0 ∨ b = 1 by omega) with rfl | rfl
      · simp
      · rw [Nat.one_mul, Nat.testBit_two_pow]; simp [eq_comm]
    have hb3 : (b * 2 ^ (k % 8)).testBit t = (decide (b = 1) && decide (k % 8 = t)) := by
      rcases (show b = 0 ∨ b = 1 by omega) with rfl | rfl
      · simp
      · rw [Nat.one_mul, Nat.testBit_two_pow]; simp
    rw [hb2, hb3]
    by_cases ht : t < 8
    · have : (8 * (k / 8) + t = k) ↔ (k % 8 = t) := by omega
      simp [ht, this]
    · simp [ht, show ¬ k % 8 = t by omega]
  · rename_i e
    rw [hg]
    refine Nat.eq_of_testBit_eq fun t => ?_
    rw [byte_bit, byte_bit, Nat.testBit_or]
    have hb2 : (b * 2 ^ k).testBit (8 * (n - 1 - j) + t) = (decide (b = 1) && decide (8 * (n - 1 - j) + t = k)) := by
      rcases (show b = 0 ∨ b = 1 by omega) with rfl | rfl
      · simp
      · rw [Nat.one_mul, Nat.testBit_two_pow]; simp [eq_comm]
    rw [hb2]
    by_cases ht : t < 8
    · have : ¬ (8 * (n - 1 - j) + t = k) := by omega
      simp [this]
    · simp [ht]
/-- The number of the first bits, with zeros for the others. -/
def fst (l : List Nat) (i : Nat) : Nat := nbits (l.take i) 0 * 2 ^ (l.length - i)
theorem nbits_snoc (l : List Nat) (b a : Nat) : nbits (l ++ [b]) a = 2 * nbits l a + b := by unfold nbits; rw [List.foldl_append]; rfl
theorem fst_zero (l : List Nat) : fst l 0 = 0 := by simp [fst, nbits]
theorem fst_all (l : List Nat) : fst l l.length = nbits l 0 := by simp [fst]
theorem fst_succ (l : List Nat) (i : Nat) (h : i < l.length) (hb : l[i] < 2) : fst l (i + 1) = fst l i ||| l[i] * 2 ^ (l.length - 1 - i) := by
  unfold fst
  have e : l.take (i + 1) = l.take i ++ [l[i]] := by rw [List.take_add_one]; simp [h]
  rw [e, nbits_snoc]
  obtain ⟨k, hk⟩ : ∃ k, l.length - 1 - i = k := ⟨_, rfl⟩
  rw [show l.length - (i + 1) = k by omega, show l.length - i = k + 1 by omega, hk]
  have hlt : l[i] * 2 ^ k < 2 ^ (k + 1) := by
    have := Nat.mul_le_mul_right (2 ^ k) (show l[i] ≤ 1 by omega)
    have := Nat.two_pow_pos k
    rw [Nat.pow_succ]; omega
  have h2 := Nat.two_pow_add_eq_or_of_lt hlt (nbits (l.take i) 0)
  rw [Nat.mul_comm (nbits (l.take i) 0), ← h2, Nat.pow_succ, Nat.add_mul, Nat.mul_comm (2 ^ k) 2, Nat.mul_assoc 2, Nat.mul_assoc 2, Nat.mul_comm (2 ^ k)]
theorem nbits_lt : ∀ (l : List Nat) (a : Nat), (∀ b ∈ l, b < 2) → nbits l a < (a + 1) * 2 ^ l.length
  | [], a, _ => by simp [nbits]
  | b :: l, a, h => by
    have hb := h b (List.mem_cons_self ..)
    have h1 := nbits_lt l (2 * a + b) (fun x hx => h x (List.mem_cons_of_mem _ hx))
    show nbits l (2 * a + b) < _
    have h2 : (2 * a + b + 1) * 2 ^ l.length ≤ (2 * (a + 1)) * 2 ^ l.length := Nat.mul_le_mul_right _ (by omega)
    rw [List.length_cons, Nat.pow_succ, Nat.mul_comm (2 ^ l.length) 2, ← Nat.mul_assoc, Nat.mul_comm (a + 1) 2]
    omega
theorem vb_all (l : List Nat) (h : ∀ b ∈ l, b < 2) : vb (dby (nbits l 0) ((l.length + 7) / 8)) 0 = nbits l 0 := by
  rw [vb_dby]
  have h1 := nbits_lt l 0 h
  rw [Nat.zero_add, Nat.one_mul] at h1
  refine Nat.mod_eq_of_lt (Nat.lt_of_lt_of_le h1 ?_)
  rw [show (256 : Nat) = 2 ^ 8 from rfl, ← Nat.pow_mul]
  exact Nat.pow_le_pow_right (by omega) (by omega)
end Go.Proofs.YtnpigefbdadjfaaDoor
