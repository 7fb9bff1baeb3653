/- Plain facts on polynomials whose coefficients are bits: remainders, without the program. -/
namespace Go.Proofs.YtnpigefbdadjfaaDoor
set_option linter.unusedVariables false
set_option linter.unusedSimpArgs false

/-- The remainder of a remainder times x plus a bit. -/
def nxR (p d r b : Nat) : Nat := if (2 * r + b).testBit d then (2 * r + b) ^^^ p else 2 * r + b
/-- The remainder of a polynomial. -/
def rd (p d n : Nat) : Nat := if h : n = 0 then 0 else nxR p d (rd p d (n / 2)) (n % 2)
termination_by n
decreasing_by omega

theorem rd_zero (p d : Nat) : rd p d 0 = 0 := by rw [rd]; simp
theorem nxR_zero (p d : Nat) : nxR p d 0 0 = 0 := by simp [nxR]
theorem rd_step (p d n : Nat) : rd p d n = nxR p d (rd p d (n / 2)) (n % 2) := by
  by_cases h : n = 0
  · subst h; simp [rd_zero, nxR_zero]
  · rw [rd, dif_neg h]
theorem rd_two (p d n b : Nat) (hb : b < 2) : rd p d (2 * n + b) = nxR p d (rd p d n) b := by
  rw [rd_step, show (2 * n + b) / 2 = n by omega, show (2 * n + b) % 2 = b by omega]
/-- A number whose greatest bit lies at d. -/
structure Deg (p d : Nat) : Prop where
  lo : 2 ^ d ≤ p
  hi : p < 2 ^ (d + 1)
  one : 1 ≤ d
theorem Deg.top {p d : Nat} (h : Deg p d) : p.testBit d = true := by
  obtain ⟨lo, hi, -⟩ := h
  rw [Nat.testBit_eq_decide_div_mod_eq]
  have h1 : p / 2 ^ d = 1 := by
    rw [Nat.pow_succ] at hi
    exact Nat.div_eq_of_lt_le (by omega) (by omega)
  rw [h1]; decide
theorem lt_of_not_top {x d : Nat} (h : x < 2 ^ (d + 1)) (hn : x.testBit d = false) : x < 2 ^ d := by
  refine Nat.lt_pow_two_of_testBit _ fun i hi => ?_
  by_cases e : i = d
  · rw [e]; exact hn
  · exact Nat.testBit_lt_two_pow (Nat.lt_of_lt_of_le h (Nat.pow_le_pow_right (by omega) (by omega)))
theorem top_of_lt {x d : Nat} (h : x < 2 ^ d) : x.testBit d = false := Nat.testBit_lt_two_pow h
theorem twice_lt {r b d : Nat} (h : r < 2 ^ d) (hb : b < 2) : 2 * r + b < 2 ^ (d + 1) := by rw [Nat.pow_succ]; omega
theorem nxR_lt {p d r b : Nat} (h : Deg p d) (hr : r < 2 ^ d) (hb : b < 2) : nxR p d r b < 2 ^ d := by
  have ht := twice_lt hr hb
  unfold nxR
  split
  · rename_i hc
    refine lt_of_not_top (Nat.xor_lt_two_pow ht h.hi) ?_
    rw [Nat.testBit_xor, hc, h.top]; rfl
  · rename_i hc
    exact lt_of_not_top ht (by simpa using hc)
theorem rd_lt {p d : Nat} (h : Deg p d) (n : Nat) : rd p d n < 2 ^ d := by
  induction n using Nat.strongRecOn with
  | ind n ih =>
    by_cases h0 : n = 0
    · rw [h0, rd_zero]; exact Nat.two_pow_pos d
    · rw [rd_step]; exact nxR_lt h (ih _ (by omega)) (by omega)
theorem rd_small {p d : Nat} (h : Deg p d) (n : Nat) (hn : n < 2 ^ d) : rd p d n = n := by
  induction n using Nat.strongRecOn with
  | ind n ih =>
    by_cases h0 : n = 0
    · rw [h0, rd_zero]
    · rw [rd_step, ih (n / 2) (by omega) (by omega)]
      unfold nxR
      rw [show 2 * (n / 2) + n % 2 = n by omega, top_of_lt hn]; simp
theorem xor_twice (r s b c : Nat) (hb : b < 2) (hc : c < 2) : 2 * (r ^^^ s) + (b ^^^ c) = (2 * r + b) ^^^ (2 * s + c) := by
  have hbc : b ^^^ c < 2 := Nat.xor_lt_two_pow (n := 1) (by omega) (by omega)
  refine Nat.eq_of_testBit_eq fun i => ?_
  rw [Nat.testBit_xor]
  have key : ∀ x y : Nat, y < 2 → (2 * x + y).testBit i = if i = 0 then y.testBit 0 else x.testBit (i - 1) := by
    intro x y hy
    rcases i with _ | i
    · simp [Nat.testBit_zero]
    · rw [Nat.testBit_succ, show (2 * x + y) / 2 = x by omega]; simp
  rw [key _ _ hbc, key _ _ hb, key _ _ hc]
  split <;> rw [Nat.testBit_xor]
theorem nxR_xor {p d : Nat} (r s b c : Nat) (hb : b < 2) (hc : c < 2) : nxR p d (r ^^^ s) (b ^^^ c) = nxR p d r b ^^^ nxR p d s c := by
  unfold nxR
  rw [xor_twice r s b c hb hc, Nat.testBit_xor]
  generalize 2 * r + b = X
  generalize 2 * s + c = Y
  cases X.testBit d <;> cases Y.testBit d <;> simp
  · rw [Nat.xor_assoc]
  · rw [Nat.xor_assoc, Nat.xor_comm Y p, ← Nat.xor_assoc]
  · rw [Nat.xor_assoc X p, Nat.xor_comm Y p, ← Nat.xor_assoc p p, Nat.xor_self, Nat.zero_xor]
theorem half_xor (a b : Nat) : (a ^^^ b) / 2 = a / 2 ^^^ b / 2 := by
  refine Nat.eq_of_testBit_eq fun i => ?_
  rw [Nat.testBit_xor, ← Nat.testBit_succ, ← Nat.testBit_succ, ← Nat.testBit_succ, Nat.testBit_xor]
theorem mod_xor (a b : Nat) : (a ^^^ b) % 2 = a % 2 ^^^ b % 2 := by
  have h := Nat.testBit_xor a b 0
  simp only [Nat.testBit_zero] at h
  rcases Nat.mod_two_eq_zero_or_one a with ha | ha <;> rcases Nat.mod_two_eq_zero_or_one b with hb | hb <;> rcases Nat.mod_two_eq_zero_or_one (a ^^^ b) with hc | hc <;> rw [ha, hb, hc] at h <;> rw [ha, hb, hc] <;> simp at h <;> rfl
theorem rd_xor {p d : Nat} (h : Deg p d) : ∀ (n a b : Nat), a ≤ n → b ≤ n → rd p d (a ^^^ b) = rd p d a ^^^ rd p d b := by
  intro n
  induction n using Nat.strongRecOn with
  | ind n ih =>
    intro a b ha hb
    by_cases h0 : n = 0
    · obtain rfl : a = 0 := by omega
      obtain rfl : b = 0 := by omega
      simp [rd_zero]
    · rw [rd_step p d (a ^^^ b), half_xor, mod_xor, ih (n / 2) (by omega) _ _ (by omega) (by omega), nxR_xor _ _ _ _ (by omega) (by omega), ← rd_step, ← rd_step]
theorem rd_x {p d : Nat} (h : Deg p d) (a b : Nat) : rd p d (a ^^^ b) = rd p d a ^^^ rd p d b :=
  rd_xor h (max a b) a b (Nat.le_max_left ..) (Nat.le_max_right ..)
theorem rd_rd {p d : Nat} (h : Deg p d) (n : Nat) : rd p d (rd p d n) = rd p d n := rd_small h _ (rd_lt h n)
/-- Bits put behind: only the remainder of those in front counts. -/
theorem rd_shift {p d : Nat} (h : Deg p d) (m : Nat) : ∀ (k b : Nat), b < 2 ^ k → rd p d (rd p d m * 2 ^ k + b) = rd p d (m * 2 ^ k + b)
  | 0, b, hb => by
    have : b = 0 := by simpa using hb
    subst this; simp [rd_rd h]
  | k + 1, b, hb => by
    have e : ∀ x, x * 2 ^ (k + 1) + b = 2 * (x * 2 ^ k + b / 2) + b % 2 := by
      intro x
      rw [Nat.pow_succ, ← Nat.mul_assoc]
      omega
    rw [e, e, rd_two _ _ _ _ (by omega), rd_two _ _ _ _ (by omega), rd_shift h m k (b / 2) (by rw [Nat.pow_succ] at hb; omega)]
theorem rd_top {p d : Nat} (h : Deg p d) : rd p d (2 ^ d) = 2 ^ d ^^^ p := by
  obtain ⟨e, he⟩ : ∃ e, d = e + 1 := ⟨d - 1, by have := h.one; omega⟩
  have hp : 2 ^ d = 2 * 2 ^ e + 0 := by rw [he, Nat.pow_succ]; omega
  rw [hp, rd_two _ _ _ _ (by omega), rd_small h _ (by rw [he, Nat.pow_succ]; have := Nat.two_pow_pos e; omega)]
  unfold nxR
  rw [← hp, if_pos (by rw [Nat.testBit_two_pow_self])]
/-- The polynomial itself is a multiple. -/
theorem rd_self {p d : Nat} (h : Deg p d) : rd p d p = 0 := by
  have e : p = 2 ^ d ^^^ (2 ^ d ^^^ p) := by rw [← Nat.xor_assoc, Nat.xor_self, Nat.zero_xor]
  have hl : (2 ^ d ^^^ p) < 2 ^ d := by rw [← rd_top h]; exact rd_lt h _
  have h2 := rd_x h (2 ^ d) (2 ^ d ^^^ p)
  rw [← e, rd_top h, rd_small h _ hl, Nat.xor_self] at h2
  exact h2
/-- Bits from the power d on give way to their remainder. -/
theorem rd_split {p d : Nat} (h : Deg p d) (n : Nat) : rd p d n = n % 2 ^ d ^^^ rd p d (n / 2 ^ d * 2 ^ d) := by
  have hm : n % 2 ^ d < 2 ^ d := Nat.mod_lt _ (Nat.two_pow_pos d)
  have e : n = n / 2 ^ d * 2 ^ d ^^^ n % 2 ^ d := by
    refine Nat.eq_of_testBit_eq fun i => ?_
    rw [Nat.testBit_xor, Nat.testBit_mod_two_pow, ← Nat.shiftLeft_eq, Nat.testBit_shiftLeft, Nat.testBit_div_two_pow]
    by_cases hi : d ≤ i
    · simp [hi, show ¬ i < d by omega, show d + (i - d) = i by omega, show i - d + d = i by omega]
    · simp [hi, show i < d by omega]
  have h2 := rd_x h (n / 2 ^ d * 2 ^ d) (n % 2 ^ d)
  rw [← e, rd_small h _ hm, Nat.xor_comm] at h2
  exact h2
theorem mod_as_xor (n d : Nat) : n % 2 ^ d = n ^^^ n / 2 ^ d * 2 ^ d := by
  refine Nat.eq_of_testBit_eq fun i => ?_
  rw [Nat.testBit_xor, Nat.testBit_mod_two_pow, ← Nat.shiftLeft_eq, Nat.testBit_shiftLeft, Nat.testBit_div_two_pow]
  by_cases hi : d ≤ i
  · simp [hi, show ¬ i < d by omega, show d + (i - d) = i by omega, show i - d + d = i by omega]
  · simp [hi, show i < d by omega]
/-- The remainders of bytes times x to the power of the degree. -/
def tbl (p d a : Nat) : Nat := rd p d (a * 2 ^ d)
theorem tbl_even {p d : Nat} (a : Nat) : tbl p d (2 * a) = nxR p d (tbl p d a) 0 := by
  unfold tbl
  rw [show 2 * a * 2 ^ d = 2 * (a * 2 ^ d) + 0 by rw [Nat.mul_assoc]; rfl, rd_two _ _ _ _ (by omega)]
theorem tbl_one {p d : Nat} (h : Deg p d) : tbl p d 1 = p ^^^ 2 ^ d := by unfold tbl; rw [Nat.one_mul, rd_top h, Nat.xor_comm]
theorem tbl_odd {p d : Nat} (h : Deg p d) (a : Nat) : tbl p d (2 * a + 1) = tbl p d (2 * a) ^^^ tbl p d 1 := by
  unfold tbl
  rw [← rd_x h]
  congr 1
  rw [Nat.one_mul, Nat.add_mul, Nat.one_mul]
  refine Nat.eq_of_testBit_eq fun i => ?_
  rw [Nat.testBit_xor, show 2 * a * 2 ^ d + 2 ^ d = (2 * a + 1) * 2 ^ d by rw [Nat.add_mul, Nat.one_mul], ← Nat.shiftLeft_eq, Nat.testBit_shiftLeft, ← Nat.shiftLeft_eq, Nat.testBit_shiftLeft, Nat.testBit_two_pow]
  by_cases hi : d ≤ i
  · simp only [hi, decide_true, Bool.true_and]
    rcases h2 : i - d with _ | j
    · have : d = i := by omega
      simp [this, Nat.testBit_zero]
    · rw [Nat.testBit_succ, Nat.testBit_succ, show (2 * a + 1) / 2 = 2 * a / 2 by omega, decide_eq_false (show ¬ d = i by omega)]; simp
  · simp [hi, show ¬ d = i by omega]
/-- A byte that is taken. -/
theorem take_byte {p d : Nat} (h : Deg p d) (r e : Nat) (hr : r < 2 ^ d) (he : e < 256) :
    (r * 256 + e) ^^^ ((r * 256 + e) / 2 ^ d * 2 ^ d) ^^^ tbl p d ((r * 256 + e) / 2 ^ d) = rd p d (r * 256 + e) := by
  rw [rd_split h (r * 256 + e), ← mod_as_xor]; rfl
theorem above_lt {d : Nat} (r e : Nat) (hr : r < 2 ^ d) (he : e < 256) : (r * 256 + e) / 2 ^ d < 256 := by
  rw [Nat.div_lt_iff_lt_mul (Nat.two_pow_pos d)]
  have : (r + 1) * 256 ≤ 2 ^ d * 256 := Nat.mul_le_mul_right _ hr
  omega
/-- The number of some bytes. -/
def vb (B : List Nat) (a : Nat) : Nat := B.foldl (fun n b => n * 256 + b) a
theorem rd_bytes {p d : Nat} (h : Deg p d) : ∀ (B : List Nat) (m : Nat), (∀ b ∈ B, b < 256) → B.foldl (fun r b => rd p d (r * 256 + b)) (rd p d m) = rd p d (vb B m)
  | [], m, _ => rfl
  | b :: B, m, hB => by
    have hb := hB b (List.mem_cons_self ..)
    show B.foldl _ (rd p d (rd p d m * 256 + b)) = rd p d (vb B (m * 256 + b))
    rw [← rd_bytes h B (m * 256 + b) (fun x hx => hB x (List.mem_cons_of_mem _ hx)), rd_shift h m 8 b hb]
/-- The number of some bits. -/
def nbits (l : List Nat) (a : Nat) : Nat := l.foldl (fun n b => 2 * n + b) a
theorem rd_nbits (p d : Nat) : ∀ (l : List Nat) (m : Nat), (∀ b ∈ l, b < 2) → l.foldl (nxR p d) (rd p d m) = rd p d (nbits l m)
  | [], m, _ => rfl
  | b :: l, m, hB => by
    show l.foldl (nxR p d) (nxR p d (rd p d m) b) = rd p d (nbits l (2 * m + b))
    rw [← rd_two p d m b (hB b (List.mem_cons_self ..)), rd_nbits p d l (2 * m + b) (fun x hx => hB x (List.mem_cons_of_mem _ hx))]
theorem rd_zeros (p d : Nat) (m : Nat) : ∀ k, Nat.repeat (fun r => nxR p d r 0) k (rd p d m) = rd p d (m * 2 ^ k)
  | 0 => by simp [Nat.repeat]
  | k + 1 => by
    show nxR p d (Nat.repeat (fun r => nxR p d r 0) k (rd p d m)) 0 = _
    rw [rd_zeros p d m k, ← rd_two _ _ _ _ (by omega), Nat.pow_succ, Nat.add_zero, Nat.mul_comm 2, Nat.mul_assoc]
/-- The step with a bit 0 is one to one, if the bit 0 of p is 1. -/
theorem nxR_inj {p d : Nat} (h : Deg p d) (ho : p % 2 = 1) (r s : Nat) (hr : r < 2 ^ d) (hs : s < 2 ^ d) (e : nxR p d r 0 = nxR p d s 0) : r = s := by
  have hx := nxR_xor (p := p) (d := d) r s 0 0 (by omega) (by omega)
  rw [e, Nat.xor_self, Nat.xor_self] at hx
  have hz : r ^^^ s = 0 := by
    unfold nxR at hx
    split at hx
    · exfalso
      have h2 : (2 * (r ^^^ s) + 0) % 2 = p % 2 := by
        have := mod_xor (2 * (r ^^^ s) + 0) p
        rw [hx] at this
        rcases Nat.mod_two_eq_zero_or_one p with hp | hp <;> rw [hp] at this ⊢ <;> simp at this ⊢
      omega
    · omega
  have := congrArg (· ^^^ s) hz
  simp only [Nat.xor_assoc, Nat.xor_self, Nat.xor_zero, Nat.zero_xor] at this
  exact this
end Go.Proofs.YtnpigefbdadjfaaDoor
