/- Plain facts on masks with a number of bits 1, and on how many of them have the remainder 0, without the program. -/
import Derived.Test.YtnpigefbdadjfaaDoorGfP
namespace Go.Proofs.YtnpigefbdadjfaaDoor
set_option linter.unusedVariables false
set_option linter.unusedSimpArgs false

/-- How many bits are 1. -/
def pc (n : Nat) : Nat := if h : n = 0 then 0 else n % 2 + pc (n / 2)
termination_by n
decreasing_by omega
theorem pc_zero : pc 0 = 0 := by rw [pc]; simp
theorem pc_step (n : Nat) : pc n = n % 2 + pc (n / 2) := by
  by_cases h : n = 0
  · subst h; simp [pc_zero]
  · rw [pc, dif_neg h]
theorem pc_app : ∀ (j a b : Nat), b < 2 ^ j → pc (a * 2 ^ j + b) = pc a + pc b
  | 0, a, b, hb => by have : b = 0 := by simpa using hb
                      subst this; simp [pc_zero]
  | j + 1, a, b, hb => by
    rw [Nat.pow_succ] at hb
    have e : a * 2 ^ (j + 1) + b = 2 * (a * 2 ^ j + b / 2) + b % 2 := by rw [Nat.pow_succ, ← Nat.mul_assoc]; omega
    rw [e, pc_step, show (2 * (a * 2 ^ j + b / 2) + b % 2) / 2 = a * 2 ^ j + b / 2 by omega, pc_app j a (b / 2) (by omega), pc_step b]
    omega
theorem pc_ones : ∀ s, pc (2 ^ s - 1) = s
  | 0 => by simp [pc_zero]
  | s + 1 => by
    have := Nat.two_pow_pos s
    rw [pc_step, Nat.pow_succ, show (2 ^ s * 2 - 1) / 2 = 2 ^ s - 1 by omega, pc_ones s]
    omega
theorem pc_le : ∀ (j t : Nat), t < 2 ^ j → pc t ≤ j ∧ (pc t = j → t = 2 ^ j - 1)
  | 0, t, h => by have : t = 0 := by simpa using h
                  subst this; simp [pc_zero]
  | j + 1, t, h => by
    rw [Nat.pow_succ] at h ⊢
    obtain ⟨h1, h2⟩ := pc_le j (t / 2) (by omega)
    rw [pc_step t]
    refine ⟨by omega, fun e => ?_⟩
    have := h2 (by omega)
    omega
theorem pc_pos {t : Nat} (h : 0 < t) : 0 < pc t := by
  induction t using Nat.strongRecOn with
  | ind t ih =>
    rw [pc_step]
    by_cases h2 : t % 2 = 1
    · omega
    · have := ih (t / 2) (by omega) (by omega); omega
theorem odd_form : ∀ (m : Nat), m % 2 = 1 → ∃ s A, m = A * 2 ^ (s + 2) + (2 ^ (s + 1) - 1) := by
  intro m
  induction m using Nat.strongRecOn with
  | ind m ih =>
    intro ho
    by_cases hq : m / 2 % 2 = 1
    · obtain ⟨s, A, e⟩ := ih (m / 2) (by omega) hq
      refine ⟨s + 1, A, ?_⟩
      obtain ⟨X, hX⟩ : ∃ X, X = A * 2 ^ (s + 2) := ⟨_, rfl⟩
      obtain ⟨Y, hY⟩ : ∃ Y, Y = 2 ^ (s + 1) := ⟨_, rfl⟩
      have h3 : 0 < Y := by rw [hY]; exact Nat.two_pow_pos _
      rw [← hX, ← hY] at e
      have h1 : A * 2 ^ (s + 1 + 2) = 2 * X := by rw [hX, show s + 1 + 2 = (s + 2) + 1 from rfl, Nat.pow_succ 2 (s + 2), Nat.mul_comm (2 ^ (s + 2)) 2, Nat.mul_left_comm]
      have h2 : 2 ^ (s + 1 + 1) = 2 * Y := by rw [hY, Nat.pow_succ 2 (s + 1), Nat.mul_comm]
      rw [h1, h2]
      omega
    · exact ⟨0, m / 4, by simp; omega⟩
theorem form : ∀ (m : Nat), 0 < m → ∃ k s A, m = (A * 2 ^ (s + 2) + (2 ^ (s + 1) - 1)) * 2 ^ k := by
  intro m
  induction m using Nat.strongRecOn with
  | ind m ih =>
    intro h0
    by_cases ho : m % 2 = 1
    · obtain ⟨s, A, e⟩ := odd_form m ho
      exact ⟨0, s, A, by simpa using e⟩
    · obtain ⟨k, s, A, e⟩ := ih (m / 2) (by omega) (by omega)
      refine ⟨k + 1, s, A, ?_⟩
      rw [Nat.pow_succ 2 k, ← Nat.mul_assoc, ← e]; omega
/-- The next greater number with as many bits 1. -/
def nxM (k s A : Nat) : Nat := (A * 2 ^ (s + 2) + 2 ^ (s + 1)) * 2 ^ k + (2 ^ s - 1)
theorem nxM_pc (k s A : Nat) : pc (nxM k s A) = pc ((A * 2 ^ (s + 2) + (2 ^ (s + 1) - 1)) * 2 ^ k) := by
  have z : pc 1 = 1 := by rw [pc_step, pc_zero]
  have h0 : ∀ x, pc (x * 2 ^ k) = pc x := fun x => by have := pc_app k x 0 (Nat.two_pow_pos k); rw [pc_zero] at this; simpa using this
  have hs := Nat.two_pow_pos s
  have h1 : 2 ^ (s + 2) = 2 * 2 ^ (s + 1) := by rw [Nat.pow_succ 2 (s + 1), Nat.mul_comm]
  have h2 : 2 ^ (s + 1) = 2 * 2 ^ s := by rw [Nat.pow_succ 2 s, Nat.mul_comm]
  rw [h0, pc_app (s + 2) _ _ (by omega), pc_ones]
  unfold nxM
  have e : (A * 2 ^ (s + 2) + 2 ^ (s + 1)) * 2 ^ k + (2 ^ s - 1) = (2 * A + 1) * 2 ^ (s + 1 + k) + (2 ^ s - 1) := by
    rw [Nat.pow_add 2 (s + 1) k, ← Nat.mul_assoc]
    congr 2
    rw [Nat.add_mul, Nat.one_mul, h1]
    congr 1
    rw [Nat.mul_left_comm, ← Nat.mul_assoc]
  have hlt : 2 ^ s - 1 < 2 ^ (s + 1 + k) := by
    have : 2 ^ s ≤ 2 ^ (s + 1 + k) := Nat.pow_le_pow_right (by omega) (by omega)
    omega
  rw [e, pc_app _ _ _ hlt, pc_ones, pc_step, show (2 * A + 1) / 2 = A by omega]
  omega
theorem nxM_gt (k s A : Nat) : (A * 2 ^ (s + 2) + (2 ^ (s + 1) - 1)) * 2 ^ k < nxM k s A := by
  unfold nxM
  have := Nat.two_pow_pos (s + 1)
  have h : (A * 2 ^ (s + 2) + (2 ^ (s + 1) - 1)) * 2 ^ k < (A * 2 ^ (s + 2) + 2 ^ (s + 1)) * 2 ^ k := Nat.mul_lt_mul_of_pos_right (by omega) (Nat.two_pow_pos k)
  omega
/-- Between them, none has as many. -/
theorem nxM_least (k s A x : Nat) (h1 : (A * 2 ^ (s + 2) + (2 ^ (s + 1) - 1)) * 2 ^ k < x) (h2 : x < nxM k s A) : pc x ≠ pc (nxM k s A) := by
  have hs := Nat.two_pow_pos s
  have hk := Nat.two_pow_pos k
  have e2 : 2 ^ (s + 1) = 2 * 2 ^ s := by rw [Nat.pow_succ 2 s, Nat.mul_comm]
  have z : pc 1 = 1 := by rw [pc_step, pc_zero]
  have h0 : ∀ x, pc (x * 2 ^ k) = pc x := fun x => by have := pc_app k x 0 (Nat.two_pow_pos k); rw [pc_zero] at this; simpa using this
  have hpn : pc (nxM k s A) = pc A + (s + 1) := by
    rw [nxM_pc, h0, pc_app (s + 2) _ _ (by have : 2 ^ (s + 2) = 2 * 2 ^ (s + 1) := by rw [Nat.pow_succ 2 (s + 1), Nat.mul_comm]
                                           omega), pc_ones]
  rw [hpn]
  -- the bits from the run's end on are those of A
  obtain ⟨P, hP⟩ : ∃ P, P = 2 ^ (s + 1 + k) := ⟨_, rfl⟩
  have hPk : P = 2 ^ (s + 1) * 2 ^ k := by rw [hP, Nat.pow_add]
  have eA : A * 2 ^ (s + 2) * 2 ^ k = 2 * A * P := by
    rw [hPk, show 2 ^ (s + 2) = 2 * 2 ^ (s + 1) by rw [Nat.pow_succ 2 (s + 1), Nat.mul_comm], Nat.mul_left_comm, ← Nat.mul_assoc, ← Nat.mul_assoc]
  have hsP : 2 ^ s ≤ P := by rw [hP]; exact Nat.pow_le_pow_right (by omega) (by omega)
  have el : (A * 2 ^ (s + 2) + (2 ^ (s + 1) - 1)) * 2 ^ k = 2 * A * P + (P - 2 ^ k) := by
    rw [Nat.add_mul, eA, Nat.sub_mul, Nat.one_mul, hPk]
  have eh : nxM k s A = 2 * A * P + P + (2 ^ s - 1) := by unfold nxM; rw [Nat.add_mul, eA, hPk]
  rw [el] at h1
  rw [eh] at h2
  have hkP : 2 ^ k ≤ P := by rw [hP]; exact Nat.pow_le_pow_right (by omega) (by omega)
  by_cases hx : x < 2 * A * P + P
  · -- its run is the same, and there are bits behind it
    obtain ⟨t, ht, hxt⟩ : ∃ t, (0 < t ∧ t < 2 ^ k) ∧ x = (A * 2 ^ (s + 2) + (2 ^ (s + 1) - 1)) * 2 ^ k + t := ⟨x - (2 * A * P + (P - 2 ^ k)), ⟨by omega, by omega⟩, by rw [el]; omega⟩
    rw [hxt, pc_app _ _ _ ht.2, pc_app (s + 2) _ _ (by have : 2 ^ (s + 2) = 2 * 2 ^ (s + 1) := by rw [Nat.pow_succ 2 (s + 1), Nat.mul_comm]
                                                       omega), pc_ones]
    have := pc_pos ht.1
    omega
  · obtain ⟨t, ht, hxt⟩ : ∃ t, t < 2 ^ s - 1 ∧ x = (2 * A + 1) * P + t := ⟨x - (2 * A * P + P), by omega, by rw [Nat.add_mul, Nat.one_mul]; omega⟩
    rw [hxt, hP, pc_app _ _ _ (by rw [← hP]; omega), pc_step, show (2 * A + 1) / 2 = A by omega, show (2 * A + 1) % 2 = 1 by omega]
    have := pc_le s t (by omega)
    have h3 : pc t ≠ s := fun e => by have := this.2 e; omega
    omega
/-- How many numbers below n are so. -/
def hits (f : Nat → Bool) : Nat → Nat
  | 0 => 0
  | n + 1 => hits f n + if f n then 1 else 0
theorem hits_le (f : Nat → Bool) : ∀ n, hits f n ≤ n
  | 0 => Nat.le_refl _
  | n + 1 => by have := hits_le f n; unfold hits; split <;> omega
theorem hits_add (f : Nat → Bool) (a : Nat) : ∀ b, hits f (a + b) = hits f a + hits (fun y => f (a + y)) b
  | 0 => rfl
  | b + 1 => by
    show hits f (a + b) + (if f (a + b) then 1 else 0) = hits f a + (hits (fun y => f (a + y)) b + if f (a + b) then 1 else 0)
    rw [hits_add f a b, Nat.add_assoc]
theorem hits_none (f : Nat → Bool) : ∀ b, (∀ x, x < b → f x = false) → hits f b = 0
  | 0, _ => rfl
  | b + 1, h => by
    show hits f b + _ = 0
    rw [hits_none f b (fun x hx => h x (by omega)), h b (by omega)]; rfl
theorem hits_gap (f : Nat → Bool) (a b : Nat) (hab : a ≤ b) (h : ∀ x, a ≤ x → x < b → f x = false) : hits f b = hits f a := by
  obtain ⟨c, rfl⟩ := Nat.exists_eq_add_of_le hab
  rw [hits_add, hits_none _ c (fun x hx => h _ (by omega) (by omega))]; rfl
theorem hits_congr (f g : Nat → Bool) : ∀ n, (∀ x, x < n → f x = g x) → hits f n = hits g n
  | 0, _ => rfl
  | n + 1, h => by
    show hits f n + _ = hits g n + _
    rw [hits_congr f g n (fun x hx => h x (by omega)), h n (by omega)]
/-- Whether a mask has c bits 1 and is missed. -/
def hitB (p d c : Nat) (x : Nat) : Bool := decide (pc x = c) && decide (rd p d x = 0)
theorem hits_start (p d c L : Nat) : hits (hitB p d c) (min (2 ^ c - 1) (2 ^ L)) = 0 :=
  hits_none _ _ fun x hx => by
    unfold hitB
    have := pc_le c x (by have := Nat.two_pow_pos c; omega)
    rw [decide_eq_false (fun e => by have := this.2 e; omega)]; rfl
theorem hits_step (p d c L k s A m : Nat) (hm : m = (A * 2 ^ (s + 2) + (2 ^ (s + 1) - 1)) * 2 ^ k) (hc : pc m = c) (hL : m < 2 ^ L) :
    hits (hitB p d c) (min (nxM k s A) (2 ^ L)) = hits (hitB p d c) (min m (2 ^ L)) + if rd p d m = 0 then 1 else 0 := by
  have hgt := nxM_gt k s A
  rw [← hm] at hgt
  rw [hits_gap (hitB p d c) (m + 1) (min (nxM k s A) (2 ^ L)) (by omega) (fun x h1 h2 => by
    unfold hitB
    have := nxM_least k s A x (by rw [← hm]; omega) (by omega)
    rw [nxM_pc, ← hm, hc] at this
    rw [decide_eq_false this]; rfl), show min m (2 ^ L) = m by omega]
  show hits _ m + (if hitB p d c m then 1 else 0) = _
  congr 1
  unfold hitB
  rw [decide_eq_true hc]
  by_cases h : rd p d m = 0 <;> simp [h]
/-- The model's number of choices. -/
def chs : List Nat → Nat → Nat → Nat
  | [], c, r => if c = 0 ∧ r = 0 then 1 else 0
  | h :: t, 0, r => chs t 0 r
  | h :: t, c + 1, r => chs t (c + 1) r + chs t c (r ^^^ h)
theorem chs_zero : ∀ l r, chs l 0 r = if r = 0 then 1 else 0
  | [], r => by simp [chs]
  | h :: t, r => by show chs t 0 r = _; exact chs_zero t r
theorem chs_le : ∀ l c r, chs l c r ≤ 2 ^ l.length
  | [], c, r => by unfold chs; split <;> simp
  | h :: t, 0, r => by have := chs_le t 0 r; rw [List.length_cons, Nat.pow_succ]; show chs t 0 r ≤ _; omega
  | h :: t, c + 1, r => by
    have h1 := chs_le t (c + 1) r
    have h2 := chs_le t c (r ^^^ h)
    rw [List.length_cons, Nat.pow_succ]; show chs t (c + 1) r + chs t c (r ^^^ h) ≤ _; omega
theorem chs_snoc : ∀ (l : List Nat) (h c r : Nat), chs (l ++ [h]) (c + 1) r = chs l (c + 1) r + chs l c (r ^^^ h)
  | [], h, c, r => by
    show chs [] (c + 1) r + chs [] c (r ^^^ h) = _
    rfl
  | a :: l, h, 0, r => by
    show chs (l ++ [h]) 1 r + chs (l ++ [h]) 0 (r ^^^ a) = (chs l 1 r + chs l 0 (r ^^^ a)) + chs l 0 (r ^^^ h)
    rw [show (1 : Nat) = 0 + 1 from rfl, chs_snoc l h 0 r, chs_zero, chs_zero, chs_zero]
    generalize chs l (0 + 1) r = X
    omega
  | a :: l, h, c + 1, r => by
    show chs (l ++ [h]) (c + 2) r + chs (l ++ [h]) (c + 1) (r ^^^ a) = (chs l (c + 2) r + chs l (c + 1) (r ^^^ a)) + (chs l (c + 1) (r ^^^ h) + chs l c (r ^^^ h ^^^ a))
    rw [show c + 2 = (c + 1) + 1 from rfl, chs_snoc l h (c + 1) r, chs_snoc l h c (r ^^^ a), Nat.xor_assoc r a h, Nat.xor_comm a h, ← Nat.xor_assoc]
    generalize chs l (c + 1 + 1) r = X
    omega
/-- The remainders of the powers of x. -/
def pws (p d L : Nat) : List Nat := (List.range L).map (fun k => rd p d (2 ^ k))
theorem pws_succ (p d L : Nat) : pws p d (L + 1) = pws p d L ++ [rd p d (2 ^ L)] := by unfold pws; rw [List.range_succ, List.map_append]; rfl
theorem xor_zero_iff (a b : Nat) : a ^^^ b = 0 ↔ a = b := by
  constructor
  · intro h
    have := congrArg (· ^^^ b) h
    simpa [Nat.xor_assoc] using this
  · rintro rfl; exact Nat.xor_self _
theorem chs_hits {p d : Nat} (h : Deg p d) : ∀ (L c r : Nat), chs (pws p d L) c r = hits (fun x => decide (pc x = c) && decide (rd p d x = r)) (2 ^ L)
  | 0, c, r => by
    show (if c = 0 ∧ r = 0 then 1 else 0) = 0 + (if (decide (pc 0 = c) && decide (rd p d 0 = r)) then 1 else 0)
    rw [pc_zero, rd_zero]
    by_cases h1 : c = 0 <;> by_cases h2 : r = 0 <;> simp [h1, h2, eq_comm]
  | L + 1, 0, r => by
    rw [chs_zero]
    have hp : 2 ^ (L + 1) = 1 + (2 ^ (L + 1) - 1) := by have := Nat.two_pow_pos (L + 1); omega
    rw [hp, hits_add, hits_none (fun y => decide (pc (1 + y) = 0) && decide (rd p d (1 + y) = r)) _ (fun x _ => by
      have := pc_pos (t := 1 + x) (by omega)
      rw [decide_eq_false (by omega)]; rfl)]
    show _ = 0 + (if (decide (pc 0 = 0) && decide (rd p d 0 = r)) then 1 else 0) + 0
    rw [pc_zero, rd_zero]
    by_cases h2 : r = 0 <;> simp [h2, eq_comm]
  | L + 1, c + 1, r => by
    rw [pws_succ, chs_snoc, chs_hits h L (c + 1) r, chs_hits h L c, Nat.pow_succ, Nat.mul_two, hits_add]
    congr 1
    refine hits_congr _ _ _ fun x hx => ?_
    have e1 : pc (2 ^ L + x) = 1 + pc x := by
      have := pc_app L 1 x hx
      rw [Nat.one_mul] at this
      rw [this, show pc 1 = 1 by rw [pc_step, pc_zero]]
    have e2 : rd p d (2 ^ L + x) = rd p d (2 ^ L) ^^^ rd p d x := by
      rw [← rd_x h]
      congr 1
      have := Nat.two_pow_add_eq_or_of_lt hx 1
      rw [Nat.mul_one] at this
      refine Nat.eq_of_testBit_eq fun i => ?_
      rw [this, Nat.testBit_or, Nat.testBit_xor, Nat.testBit_two_pow]
      by_cases e : L = i
      · subst e; simp [Nat.testBit_lt_two_pow hx]
      · simp [e]
    rw [e1, e2]
    congr 1
    · rw [decide_eq_decide]; omega
    · rw [decide_eq_decide]
      generalize rd p d (2 ^ L) = y
      generalize rd p d x = z
      constructor
      · intro e; rw [e, Nat.xor_comm r y, ← Nat.xor_assoc, Nat.xor_self, Nat.zero_xor]
      · intro e; rw [← e, Nat.xor_comm y z, Nat.xor_assoc, Nat.xor_self, Nat.xor_zero]
/-- How many ways of changing c of L bits are missed. -/
def cmN (p d L c : Nat) : Nat := hits (hitB p d c) (2 ^ L)
theorem cmN_chs {p d : Nat} (h : Deg p d) (L c : Nat) : chs (pws p d L) c 0 = cmN p d L c := chs_hits h L c 0
end Go.Proofs.YtnpigefbdadjfaaDoor
