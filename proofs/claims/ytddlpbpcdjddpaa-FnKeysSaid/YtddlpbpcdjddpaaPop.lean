/- Plain facts on how many bits of a number are 1, without the program. -/
namespace Go.Proofs.Ytddlpbpcdjddpaa
/-- How many bits are 1. -/
def pop (n : Nat) : Nat := if h : n = 0 then 0 else n % 2 + pop (n / 2)
termination_by n
decreasing_by omega
theorem pop_zero : pop 0 = 0 := by unfold pop; rfl
theorem pop_eq (n : Nat) : pop n = n % 2 + pop (n / 2) := by
  by_cases h : n = 0
  · subst h; simp [pop_zero]
  · rw [pop, dif_neg h]
theorem and_split (a b : Nat) : a &&& b = (a % 256 &&& b % 256) + 256 * (a / 256 &&& b / 256) := by
  have h1 : (a &&& b) % 2 ^ 8 = (a % 2 ^ 8) &&& (b % 2 ^ 8) := Nat.and_mod_two_pow
  have h2 : (a &&& b) / 2 ^ 8 = (a / 2 ^ 8) &&& (b / 2 ^ 8) := Nat.and_div_two_pow
  have h3 : (2 : Nat) ^ 8 = 256 := by decide
  rw [h3] at h1 h2
  rw [← h1, ← h2]
  omega
theorem and_split2 (a b : Nat) : a &&& b = (a % 2 &&& b % 2) + 2 * (a / 2 &&& b / 2) := by
  have h1 : (a &&& b) % 2 ^ 1 = (a % 2 ^ 1) &&& (b % 2 ^ 1) := Nat.and_mod_two_pow
  have h2 : (a &&& b) / 2 ^ 1 = (a / 2 ^ 1) &&& (b / 2 ^ 1) := Nat.and_div_two_pow
  rw [Nat.pow_one] at h1 h2
  rw [← h1, ← h2]
  omega
/-- A mask of equal bytes. -/
def mask (m : Nat) : Nat → Nat
  | 0 => 0
  | k + 1 => m + 256 * mask m k
def s1 (k x : Nat) : Nat := (x / 2 &&& mask 85 k) + (x &&& mask 85 k)
def s2 (k x : Nat) : Nat := (x / 4 &&& mask 51 k) + (x &&& mask 51 k)
def s3 (k x : Nat) : Nat := (x / 16 + x) &&& mask 15 k
theorem mask_mod (m k : Nat) (h : m < 256) : mask m (k + 1) % 256 = m := by rw [mask]; omega
theorem mask_div (m k : Nat) (h : m < 256) : mask m (k + 1) / 256 = mask m k := by rw [mask]; omega
theorem t1 : ∀ b : Fin 256, ∀ c : Fin 2, (b.val / 2 + 128 * c.val) &&& 85 = b.val / 2 &&& 85 := by decide +kernel
theorem t2 : ∀ b : Fin 256, ∀ c : Fin 4, (b.val / 4 + 64 * c.val) &&& 51 = b.val / 4 &&& 51 := by decide +kernel
theorem b1 : ∀ b : Fin 256, (b.val / 2 &&& 85) + (b.val &&& 85) < 256 := by decide +kernel
theorem b2 : ∀ b : Fin 256, (b.val / 4 &&& 51) + (b.val &&& 51) < 256 := by decide +kernel
def p1 (b : Nat) : Nat := (b / 2 &&& 85) + (b &&& 85)
def p2 (b : Nat) : Nat := (b / 4 &&& 51) + (b &&& 51)
def p3 (b : Nat) : Nat := (b / 16 + b) % 256 &&& 15
theorem s1_succ (k x : Nat) : s1 (k + 1) x = p1 (x % 256) + 256 * s1 k (x / 256) := by
  unfold s1 p1
  rw [and_split (x / 2) (mask 85 (k + 1)), and_split x (mask 85 (k + 1)), mask_mod 85 k (by omega), mask_div 85 k (by omega)]
  rw [show x / 2 / 256 = x / 256 / 2 from by omega]
  have h := t1 ⟨x % 256, by omega⟩ ⟨x / 256 % 2, by omega⟩
  simp only at h
  rw [show x / 2 % 256 = x % 256 / 2 + 128 * (x / 256 % 2) from by omega, h]
  omega
theorem s2_succ (k x : Nat) : s2 (k + 1) x = p2 (x % 256) + 256 * s2 k (x / 256) := by
  unfold s2 p2
  rw [and_split (x / 4) (mask 51 (k + 1)), and_split x (mask 51 (k + 1)), mask_mod 51 k (by omega), mask_div 51 k (by omega)]
  rw [show x / 4 / 256 = x / 256 / 4 from by omega]
  have h := t2 ⟨x % 256, by omega⟩ ⟨x / 256 % 4, by omega⟩
  simp only at h
  rw [show x / 4 % 256 = x % 256 / 4 + 64 * (x / 256 % 4) from by omega, h]
  omega
/-- All three steps on one byte. -/
theorem p_all : ∀ b : Fin 256, p1 b.val < 256 ∧ p2 (p1 b.val) < 256 ∧ ∀ c : Fin 16, (p2 (p1 b.val) / 16 + 16 * c.val + p2 (p1 b.val)) % 256 &&& 15 = pop b.val ∧ p2 (p1 b.val) % 16 ≤ 4 ∧ p2 (p1 b.val) / 16 ≤ 4 := by decide +kernel
theorem p1_lt (b : Nat) (h : b < 256) : p1 b < 256 := (p_all ⟨b, h⟩).1
theorem p2_lt (b : Nat) (h : b < 256) : p2 (p1 b) < 256 := (p_all ⟨b, h⟩).2.1
def tot (k x : Nat) : Nat := s3 k (s2 k (s1 k x))
theorem s12_succ (k x : Nat) : s2 (k + 1) (s1 (k + 1) x) = p2 (p1 (x % 256)) + 256 * s2 k (s1 k (x / 256)) := by
  have h := p1_lt (x % 256) (by omega)
  rw [s2_succ, s1_succ, show (p1 (x % 256) + 256 * s1 k (x / 256)) % 256 = p1 (x % 256) from by omega, show (p1 (x % 256) + 256 * s1 k (x / 256)) / 256 = s1 k (x / 256) from by omega]
theorem s12_low (k x : Nat) : s2 k (s1 k x) % 16 ≤ 4 := by
  cases k with
  | zero => simp [s2, mask]
  | succ k =>
    rw [s12_succ]
    have h := ((p_all ⟨x % 256, by omega⟩).2.2 0).2.1
    simp only at h
    omega
theorem tot_succ (k x : Nat) : tot (k + 1) x = pop (x % 256) + 256 * tot k (x / 256) := by
  unfold tot
  rw [s12_succ]
  have hc := s12_low k (x / 256)
  generalize s2 k (s1 k (x / 256)) = H at *
  obtain ⟨h1, h2, h3⟩ := p_all ⟨x % 256, by omega⟩
  obtain ⟨h4, h5, h6⟩ := h3 ⟨H % 16, by omega⟩
  simp only at *
  generalize p2 (p1 (x % 256)) = L at *
  rw [← h4]
  unfold s3
  rw [and_split _ (mask 15 (k + 1)), mask_mod 15 k (by omega), mask_div 15 k (by omega)]
  rw [show ((L + 256 * H) / 16 + (L + 256 * H)) % 256 = (L / 16 + 16 * (H % 16) + L) % 256 from by omega]
  rw [show ((L + 256 * H) / 16 + (L + 256 * H)) / 256 = H / 16 + H from by omega]
theorem pop_split (x : Nat) : pop x = pop (x % 256) + pop (x / 256) := by
  rw [pop_eq x, pop_eq (x / 2), pop_eq (x / 2 / 2), pop_eq (x / 2 / 2 / 2), pop_eq (x / 2 / 2 / 2 / 2), pop_eq (x / 2 / 2 / 2 / 2 / 2), pop_eq (x / 2 / 2 / 2 / 2 / 2 / 2), pop_eq (x / 2 / 2 / 2 / 2 / 2 / 2 / 2)]
  rw [pop_eq (x % 256), pop_eq (x % 256 / 2), pop_eq (x % 256 / 2 / 2), pop_eq (x % 256 / 2 / 2 / 2), pop_eq (x % 256 / 2 / 2 / 2 / 2), pop_eq (x % 256 / 2 / 2 / 2 / 2 / 2), pop_eq (x % 256 / 2 / 2 / 2 / 2 / 2 / 2), pop_eq (x % 256 / 2 / 2 / 2 / 2 / 2 / 2 / 2)]
  rw [show x % 256 / 2 / 2 / 2 / 2 / 2 / 2 / 2 / 2 = 0 from by omega, show x / 2 / 2 / 2 / 2 / 2 / 2 / 2 / 2 = x / 256 from by omega, pop_zero]
  omega
theorem pop_byte (b : Nat) (h : b < 256) : pop b ≤ 8 := by
  have : ∀ b : Fin 256, pop b.val ≤ 8 := by decide +kernel
  exact this ⟨b, h⟩
/-- The last three steps. -/
def fold3 (c : Nat) : Nat := (c + c / 256) + (c + c / 256) / 65536 + ((c + c / 256) + (c + c / 256) / 65536) / 4294967296
theorem fold3_eq (c p0 p1 p2 p3 p4 p5 p6 p7 a1 a2 a3 a4 a5 a6 : Nat) (h0 : p0 ≤ 8) (h1 : p1 ≤ 8) (h2 : p2 ≤ 8) (h3 : p3 ≤ 8) (h4 : p4 ≤ 8) (h5 : p5 ≤ 8) (h6 : p6 ≤ 8) (h7 : p7 ≤ 8)
    (g0 : c = p0 + 256 * a1) (g1 : a1 = p1 + 256 * a2) (g2 : a2 = p2 + 256 * a3) (g3 : a3 = p3 + 256 * a4) (g4 : a4 = p4 + 256 * a5) (g5 : a5 = p5 + 256 * a6) (g6 : a6 = p6 + 256 * p7) :
    fold3 c % 128 = p0 + p1 + p2 + p3 + p4 + p5 + p6 + p7 := by
  unfold fold3
  have e1 : c / 256 = a1 := by clear g1 g2 g3 g4 g5 g6; omega
  rw [e1]
  have e2 : (c + a1) / 65536 = a2 + a3 := by clear e1 g3 g4 g5 g6; omega
  rw [e2]
  have e3 : (c + a1 + (a2 + a3)) / 4294967296 = a4 + a5 + a6 + p7 := by
    have k0 : c = (p0 + 256 * p1 + 65536 * p2 + 16777216 * p3) + 4294967296 * a4 := by clear e1 e2 g4 g5 g6; omega
    have k1 : a1 = (p1 + 256 * p2 + 65536 * p3 + 16777216 * p4) + 4294967296 * a5 := by clear k0 e1 e2 g0 g5 g6; omega
    have k2 : a2 = (p2 + 256 * p3 + 65536 * p4 + 16777216 * p5) + 4294967296 * a6 := by clear k0 k1 e1 e2 g0 g1 g6; omega
    have k3 : a3 = (p3 + 256 * p4 + 65536 * p5 + 16777216 * p6) + 4294967296 * p7 := by clear k0 k1 k2 e1 e2 g0 g1 g2; omega
    clear e1 e2 g0 g1 g2 g3 g4 g5 g6
    have k4 : c + a1 + (a2 + a3) = (p0 + 256 * p1 + 65536 * p2 + 16777216 * p3 + (p1 + 256 * p2 + 65536 * p3 + 16777216 * p4) + ((p2 + 256 * p3 + 65536 * p4 + 16777216 * p5) + (p3 + 256 * p4 + 65536 * p5 + 16777216 * p6))) + 4294967296 * (a4 + a5 + a6 + p7) := by omega
    rw [k4]
    have k5 : (p0 + 256 * p1 + 65536 * p2 + 16777216 * p3 + (p1 + 256 * p2 + 65536 * p3 + 16777216 * p4) + ((p2 + 256 * p3 + 65536 * p4 + 16777216 * p5) + (p3 + 256 * p4 + 65536 * p5 + 16777216 * p6))) < 4294967296 := by clear k0 k1 k2 k3 k4; omega
    generalize (p0 + 256 * p1 + 65536 * p2 + 16777216 * p3 + (p1 + 256 * p2 + 65536 * p3 + 16777216 * p4) + ((p2 + 256 * p3 + 65536 * p4 + 16777216 * p5) + (p3 + 256 * p4 + 65536 * p5 + 16777216 * p6))) = L at *
    generalize a4 + a5 + a6 + p7 = R at *
    clear k0 k1 k2 k3 k4
    omega
  rw [e3]
  have k : c + a1 + (a2 + a3) + (a4 + a5 + a6 + p7) = (p0 + p1 + p2 + p3 + p4 + p5 + p6 + p7) + 256 * (a1 + a2 + a3 + a4 + a5 + a6 + p7) := by clear e1 e2 e3; omega
  rw [k]
  clear k e1 e2 e3 g0 g1 g2 g3 g4 g5 g6
  omega
theorem fold3_le (c : Nat) (h : c ≤ 1157442765409226768) : fold3 c ≤ 1170000000000000000 := by unfold fold3; omega
theorem tot_zero (x : Nat) : tot 0 x = 0 := by simp [tot, s3, mask]
theorem tot_eq (x : Nat) (h : x < 18446744073709551616) : fold3 (tot 8 x) % 128 = pop x ∧ tot 8 x ≤ 1157442765409226768 := by
  have hp := pop_split x
  rw [pop_split (x / 256), pop_split (x / 256 / 256), pop_split (x / 256 / 256 / 256), pop_split (x / 256 / 256 / 256 / 256), pop_split (x / 256 / 256 / 256 / 256 / 256), pop_split (x / 256 / 256 / 256 / 256 / 256 / 256), pop_split (x / 256 / 256 / 256 / 256 / 256 / 256 / 256)] at hp
  rw [show x / 256 / 256 / 256 / 256 / 256 / 256 / 256 / 256 = 0 from by omega, pop_zero] at hp
  have g0 := tot_succ 7 x
  have g1 := tot_succ 6 (x / 256)
  have g2 := tot_succ 5 (x / 256 / 256)
  have g3 := tot_succ 4 (x / 256 / 256 / 256)
  have g4 := tot_succ 3 (x / 256 / 256 / 256 / 256)
  have g5 := tot_succ 2 (x / 256 / 256 / 256 / 256 / 256)
  have g6 := tot_succ 1 (x / 256 / 256 / 256 / 256 / 256 / 256)
  have g7 := tot_succ 0 (x / 256 / 256 / 256 / 256 / 256 / 256 / 256)
  rw [tot_zero, Nat.mul_zero, Nat.add_zero] at g7
  rw [g7] at g6
  have b0 := pop_byte (x % 256) (by omega)
  have b1 := pop_byte (x / 256 % 256) (by omega)
  have b2 := pop_byte (x / 256 / 256 % 256) (by omega)
  have b3 := pop_byte (x / 256 / 256 / 256 % 256) (by omega)
  have b4 := pop_byte (x / 256 / 256 / 256 / 256 % 256) (by omega)
  have b5 := pop_byte (x / 256 / 256 / 256 / 256 / 256 % 256) (by omega)
  have b6 := pop_byte (x / 256 / 256 / 256 / 256 / 256 / 256 % 256) (by omega)
  have b7 := pop_byte (x / 256 / 256 / 256 / 256 / 256 / 256 / 256 % 256) (by omega)
  have hf := fold3_eq _ _ _ _ _ _ _ _ _ _ _ _ _ _ _ b0 b1 b2 b3 b4 b5 b6 b7 g0 g1 g2 g3 g4 g5 g6
  refine ⟨by rw [hf, hp]; omega, ?_⟩
  clear hf hp g7
  simp only [Nat.reduceAdd] at g0 g1 g2 g3 g4 g5 g6
  have c6 : tot 2 (x / 256 / 256 / 256 / 256 / 256 / 256) ≤ 2056 := by clear g0 g1 g2 g3 g4 g5; omega
  clear g6
  have c5 : tot 3 (x / 256 / 256 / 256 / 256 / 256) ≤ 526344 := by clear g0 g1 g2 g3 g4; omega
  clear g5
  have c4 : tot 4 (x / 256 / 256 / 256 / 256) ≤ 134744072 := by clear g0 g1 g2 g3; omega
  clear g4
  have c3 : tot 5 (x / 256 / 256 / 256) ≤ 34494482440 := by clear g0 g1 g2; omega
  clear g3
  have c2 : tot 6 (x / 256 / 256) ≤ 8830587504648 := by clear g0 g1; omega
  clear g2
  have c1 : tot 7 (x / 256) ≤ 2260630401189896 := by clear g0; omega
  clear g1
  rw [g0]
  omega
/-- One bit less. -/
theorem pop_less (r : Nat) (h : 0 < r) : pop (r &&& (r - 1)) + 1 = pop r := by
  induction r using Nat.strongRecOn with
  | _ r ih =>
    rw [and_split2, pop_eq r]
    by_cases hb : r % 2 = 1
    · rw [show (r - 1) % 2 = 0 from by omega, show (r - 1) / 2 = r / 2 from by omega, hb, Nat.and_self, pop_eq (_ + 2 * (r / 2))]
      simp only [Nat.and_zero, Nat.zero_add]
      rw [show 2 * (r / 2) % 2 = 0 from by omega, show 2 * (r / 2) / 2 = r / 2 from by omega]
      omega
    · rw [show r % 2 = 0 from by omega, show (r - 1) / 2 = r / 2 - 1 from by omega, Nat.zero_and, pop_eq (0 + _)]
      rw [Nat.zero_add, show 2 * (r / 2 &&& (r / 2 - 1)) % 2 = 0 from by omega, show 2 * (r / 2 &&& (r / 2 - 1)) / 2 = (r / 2 &&& (r / 2 - 1)) from by omega]
      have := ih (r / 2) (by omega) (by omega)
      omega
theorem s1_lt : ∀ (k x : Nat), s1 k x < 256 ^ k
  | 0, x => by simp [s1, mask]
  | k + 1, x => by
    have h1 := s1_lt k (x / 256)
    have h2 := p1_lt (x % 256) (by omega)
    rw [s1_succ, Nat.pow_succ]
    omega
theorem s12_le : ∀ (k x : Nat), s2 k (s1 k x) ≤ 68 * mask 1 k
  | 0, x => by simp [s2, mask]
  | k + 1, x => by
    have h1 := s12_le k (x / 256)
    have h := ((p_all ⟨x % 256, by omega⟩).2.2 0).2
    simp only at h
    rw [s12_succ, mask]
    omega
theorem s1_8 (x : Nat) : s1 8 x < 18446744073709551616 := by
  have h := s1_lt 8 x
  rw [show (256 : Nat) ^ 8 = 18446744073709551616 from by decide] at h
  exact h
theorem s12_8 (x : Nat) : s2 8 (s1 8 x) ≤ 4919131752989213764 := by
  have h := s12_le 8 x
  rw [show mask 1 8 = 72340172838076673 from by decide] at h
  omega
end Go.Proofs.Ytddlpbpcdjddpaa
