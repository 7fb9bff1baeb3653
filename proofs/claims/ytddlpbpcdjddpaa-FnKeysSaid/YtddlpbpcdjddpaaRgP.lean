/- Plain facts on sequences of bits whose last 16 lie in a machine word, without the program. -/
import Derived.Test.YtddlpbpcdjddpaaPop
import Derived.Test.YtddlpbpcdjddpaaScP
namespace Go.Proofs.Ytddlpbpcdjddpaa
set_option linter.unusedVariables false
open Go Go.RowKit

/-- The bit t places before the end of a sequence. -/
def bk (q : List Nat) (t : Int) : Nat := q.getD (q.length - t.toNat) 0
/-- The sum of a sequence at the place behind its last bit. -/
def smF (l : List Int) (q : List Nat) (a : Nat) : Nat := l.foldl (fun a t => a ^^^ bk q t) a
def sm (l : List Int) (q : List Nat) : Nat := smF l q 0
def bitsN (q : List Nat) : Prop := ∀ x ∈ q, x ≤ 1
theorem bk_le {q : List Nat} (h : bitsN q) (t : Int) : bk q t ≤ 1 := by
  unfold bk
  rw [List.getD]
  cases e : q[q.length - t.toNat]?
  · simp
  · exact h _ (List.mem_of_getElem? e)
theorem xor_le {a b : Nat} (ha : a ≤ 1) (hb : b ≤ 1) : a ^^^ b ≤ 1 := by
  have h1 : a = 0 ∨ a = 1 := by omega
  have h2 : b = 0 ∨ b = 1 := by omega
  rcases h1 with rfl | rfl <;> rcases h2 with rfl | rfl <;> decide
theorem smF_le {q : List Nat} (h : bitsN q) : ∀ (l : List Int) (a : Nat), a ≤ 1 → smF l q a ≤ 1
  | [], a, ha => ha
  | t :: l, a, ha => smF_le h l _ (xor_le ha (bk_le h t))
theorem sm_le {q : List Nat} (h : bitsN q) (l : List Int) : sm l q ≤ 1 := smF_le h l 0 (by omega)
theorem smF_snoc (l : List Int) (t : Int) (q : List Nat) (a : Nat) : smF (l ++ [t]) q a = smF l q a ^^^ bk q t := by simp [smF]
theorem smF_take (l : List Int) (q : List Nat) (k : Nat) (hk : k < l.length) : smF (l.take (k + 1)) q 0 = smF (l.take k) q 0 ^^^ bk q l[k] := by
  rw [List.take_succ_eq_append_getElem hk, smF_snoc]

/-- The word of a ring behind a sequence: the bit with the index j lies at the place j modulo 16. -/
def rgS (w n b : Nat) : Nat := if b = 0 then w &&& (65535 - 2 ^ (n % 16)) else w ||| 2 ^ (n % 16)
def rgF : List Nat → Nat → Nat → Nat
  | [], w, _ => w
  | b :: q, w, n => rgF q (rgS w n b) (n + 1)
def rg (q : List Nat) : Nat := rgF q 0 0
theorem rgF_snoc : ∀ (q : List Nat) (w n b : Nat), rgF (q ++ [b]) w n = rgS (rgF q w n) (n + q.length) b
  | [], w, n, b => by simp [rgF]
  | c :: q, w, n, b => by
    show rgF (q ++ [b]) _ _ = rgS (rgF q _ _) _ _
    rw [rgF_snoc q, List.length_cons, show n + 1 + q.length = n + (q.length + 1) from by omega]
theorem rg_snoc (q : List Nat) (b : Nat) : rg (q ++ [b]) = rgS (rg q) q.length b := by
  unfold rg
  rw [rgF_snoc, Nat.zero_add]
theorem pow16 (n : Nat) : 2 ^ (n % 16) ≤ 32768 := Nat.pow_le_pow_right (by omega) (by omega : n % 16 ≤ 15)
theorem rgS_lt {w n b : Nat} (hw : w < 65536) : rgS w n b < 65536 := by
  unfold rgS
  split
  · exact Nat.lt_of_le_of_lt Nat.and_le_left hw
  · exact Nat.or_lt_two_pow (n := 16) hw (Nat.lt_of_le_of_lt (pow16 n) (by omega))
theorem rgF_lt : ∀ (q : List Nat) (w n : Nat), w < 65536 → rgF q w n < 65536
  | [], w, n, h => h
  | b :: q, w, n, h => rgF_lt q _ _ (rgS_lt h)
theorem rg_lt (q : List Nat) : rg q < 65536 := rgF_lt q 0 0 (by omega)
theorem mask_bit : ∀ i p : Fin 16, (65535 - 2 ^ i.val).testBit p.val = decide (i ≠ p) := by decide +kernel
theorem rgS_bit (w n b p : Nat) (hw : w < 65536) (hp : p < 16) : (rgS w n b).testBit p = if n % 16 = p then decide (b ≠ 0) else w.testBit p := by
  unfold rgS
  have hm := mask_bit ⟨n % 16, by omega⟩ ⟨p, hp⟩
  simp only [ne_eq, Fin.mk.injEq] at hm
  by_cases hb : b = 0
  · rw [if_pos hb, Nat.testBit_and, hm]
    by_cases h : n % 16 = p
    · simp [h, hb]
    · simp [h]
  · rw [if_neg hb, Nat.testBit_or, Nat.testBit_two_pow]
    by_cases h : n % 16 = p
    · simp [h, hb]
    · simp [h]
/-- The last 16 bits lie at their places. -/
theorem rg_bit : ∀ (n : Nat) (q : List Nat), q.length = n → ∀ j, j < q.length → q.length ≤ j + 16 → (rg q).testBit (j % 16) = decide (q.getD j 0 ≠ 0)
  | 0, q, h, j, hj, _ => by omega
  | n + 1, q, h, j, hj, hl => by
    have hne : q ≠ [] := by intro e; subst e; simp at h
    obtain ⟨q', b, rfl⟩ : ∃ q' b, q = q' ++ [b] := ⟨q.dropLast, q.getLast hne, (List.dropLast_concat_getLast hne).symm⟩
    have hq : q'.length = n := by simpa using h
    rw [rg_snoc, rgS_bit _ _ _ _ (rg_lt q') (by omega)]
    simp only [List.length_append, List.length_cons, List.length_nil] at hj hl
    by_cases e : j = q'.length
    · subst e
      simp [List.getD]
    · rw [if_neg (by omega), rg_bit n q' hq j (by omega) (by omega)]
      rw [List.getD, List.getD, List.getElem?_append_left (by omega)]

/-- The places that are tapped for a next bit with the place 0. -/
def tmF (l : List Int) (a : Nat) : Nat := l.foldl (fun a t => a ||| 2 ^ (16 - t.toNat)) a
def tm (l : List Int) : Nat := tmF l 0
theorem tmF_take (l : List Int) (k : Nat) (hk : k < l.length) : tmF (l.take (k + 1)) 0 = tmF (l.take k) 0 ||| 2 ^ (16 - l[k].toNat) := by
  unfold tmF
  rw [List.take_succ_eq_append_getElem hk, List.foldl_append]
  rfl
theorem tmF_bit : ∀ (l : List Int) (a p : Nat), (tmF l a).testBit p = (a.testBit p || l.any fun t => decide (16 - t.toNat = p))
  | [], a, p => by simp [tmF]
  | t :: l, a, p => by
    show (tmF l (a ||| 2 ^ (16 - t.toNat))).testBit p = _
    rw [tmF_bit l, Nat.testBit_or, Nat.testBit_two_pow, List.any_cons, Bool.or_assoc]
theorem tm_bit (l : List Int) (p : Nat) : (tm l).testBit p = l.any fun t => decide (16 - t.toNat = p) := by
  unfold tm
  rw [tmF_bit]; simp
theorem tmF_lt : ∀ (l : List Int) (a : Nat), a < 65536 → (∀ t ∈ l, 1 ≤ t) → tmF l a < 65536
  | [], a, h, _ => h
  | t :: l, a, h, ht => tmF_lt l _ (Nat.or_lt_two_pow (n := 16) h (Nat.pow_lt_pow_right (by omega) (by have := ht t (List.mem_cons_self ..); omega))) (fun x hx => ht x (List.mem_cons_of_mem _ hx))
/-- A word turned to the left. -/
def rot (x n : Nat) : Nat := (x * 2 ^ (n % 16)) % 65536 ||| x / 2 ^ (16 - n % 16)
theorem rot_lt {x n : Nat} (h : x < 65536) : rot x n < 65536 :=
  Nat.or_lt_two_pow (n := 16) (Nat.mod_lt _ (by omega)) (Nat.lt_of_le_of_lt (Nat.div_le_self _ _) h)
theorem rot_bit {x : Nat} (n p : Nat) (hx : x < 65536) (hp : p < 16) : (rot x n).testBit p = x.testBit ((p + 16 - n % 16) % 16) := by
  unfold rot
  rw [Nat.testBit_or, show (65536 : Nat) = 2 ^ 16 from rfl, Nat.testBit_mod_two_pow, ← Nat.shiftLeft_eq, Nat.testBit_shiftLeft, ← Nat.shiftRight_eq_div_pow, Nat.testBit_shiftRight]
  have hm : n % 16 < 16 := Nat.mod_lt _ (by omega)
  generalize n % 16 = m at *
  by_cases h : m ≤ p
  · rw [show (p + 16 - m) % 16 = p - m from by omega]
    have hpw : 2 ^ 16 ≤ 2 ^ (16 - m + p) := Nat.pow_le_pow_right (by decide) (by omega)
    have : x.testBit (16 - m + p) = false := Nat.testBit_lt_two_pow (Nat.lt_of_lt_of_le hx hpw)
    rw [this]
    simp [hp, h]
  · rw [show (p + 16 - m) % 16 = 16 - m + p from by omega]
    simp [h]

/-- The parity of 16 places. -/
def par16 (f : Nat → Bool) : Bool := f 0 ^^ (f 1 ^^ (f 2 ^^ (f 3 ^^ (f 4 ^^ (f 5 ^^ (f 6 ^^ (f 7 ^^ (f 8 ^^ (f 9 ^^ (f 10 ^^ (f 11 ^^ (f 12 ^^ (f 13 ^^ (f 14 ^^ f 15))))))))))))))
theorem par16_zero : par16 (fun _ => false) = false := rfl
theorem par16_congr {f g : Nat → Bool} (h : ∀ p, p < 16 → f p = g p) : par16 f = par16 g := by
  unfold par16
  rw [h 0 (by omega), h 1 (by omega), h 2 (by omega), h 3 (by omega), h 4 (by omega), h 5 (by omega), h 6 (by omega), h 7 (by omega), h 8 (by omega), h 9 (by omega), h 10 (by omega), h 11 (by omega), h 12 (by omega), h 13 (by omega), h 14 (by omega), h 15 (by omega)]
theorem xor4 (a b c d : Bool) : ((a ^^ b) ^^ (c ^^ d)) = ((a ^^ c) ^^ (b ^^ d)) := by cases a <;> cases b <;> cases c <;> cases d <;> rfl
theorem par16_xor (f g : Nat → Bool) : par16 (fun p => f p ^^ g p) = (par16 f ^^ par16 g) := by
  unfold par16
  rw [xor4 (f 14) (g 14), xor4 (f 13) (g 13), xor4 (f 12) (g 12), xor4 (f 11) (g 11), xor4 (f 10) (g 10), xor4 (f 9) (g 9), xor4 (f 8) (g 8), xor4 (f 7) (g 7), xor4 (f 6) (g 6), xor4 (f 5) (g 5), xor4 (f 4) (g 4), xor4 (f 3) (g 3), xor4 (f 2) (g 2), xor4 (f 1) (g 1), xor4 (f 0) (g 0)]
theorem par16_one (f : Nat → Bool) (k : Nat) (hk : k < 16) : par16 (fun p => decide (k = p) && f p) = f k := by
  unfold par16
  have : k = 0 ∨ k = 1 ∨ k = 2 ∨ k = 3 ∨ k = 4 ∨ k = 5 ∨ k = 6 ∨ k = 7 ∨ k = 8 ∨ k = 9 ∨ k = 10 ∨ k = 11 ∨ k = 12 ∨ k = 13 ∨ k = 14 ∨ k = 15 := by omega
  rcases this with rfl | rfl | rfl | rfl | rfl | rfl | rfl | rfl | rfl | rfl | rfl | rfl | rfl | rfl | rfl | rfl <;> simp
theorem pop_par (x : Nat) (h : x < 65536) : pop x % 2 = (par16 x.testBit).toNat := by
  have e : ∀ n, x.testBit n = decide (x / 2 ^ n % 2 = 1) := fun n => by rw [Nat.testBit_eq_decide_div_mod_eq]
  have hp : ∀ y, pop y % 2 = (decide (y % 2 = 1) ^^ decide (pop (y / 2) % 2 = 1)).toNat := fun y => by
    rw [pop_eq y]
    have a : y % 2 = 0 ∨ y % 2 = 1 := by omega
    have b : pop (y / 2) % 2 = 0 ∨ pop (y / 2) % 2 = 1 := by omega
    rcases a with a | a <;> rcases b with b | b
    · rw [Nat.add_mod, a, b]; rfl
    · rw [Nat.add_mod, a, b]; rfl
    · rw [Nat.add_mod, a, b]; rfl
    · rw [Nat.add_mod, a, b]; rfl
  have hd : ∀ (y : Nat) (c : Bool), pop y % 2 = c.toNat → decide (pop y % 2 = 1) = c := fun y c h => by rw [h]; cases c <;> rfl
  have st : ∀ (n : Nat) (c : Bool), pop (x / 2 ^ (n + 1)) % 2 = c.toNat → pop (x / 2 ^ n) % 2 = (x.testBit n ^^ c).toNat := fun n c hc => by
    rw [hp, e n, show x / 2 ^ n / 2 = x / 2 ^ (n + 1) from by rw [Nat.div_div_eq_div_mul, Nat.pow_succ], hd _ _ hc]
  have h16 : pop (x / 2 ^ 16) % 2 = (false : Bool).toNat := by
    rw [show x / 2 ^ 16 = 0 from Nat.div_eq_of_lt h, pop_zero]; rfl
  have := st 0 _ (st 1 _ (st 2 _ (st 3 _ (st 4 _ (st 5 _ (st 6 _ (st 7 _ (st 8 _ (st 9 _ (st 10 _ (st 11 _ (st 12 _ (st 13 _ (st 14 _ (st 15 _ h16)))))))))))))))
  rw [Nat.pow_zero, Nat.div_one] at this
  rw [this]
  unfold par16
  simp
/-- The taps, as places behind a sequence of n bits. -/
theorem par_taps (f : Nat → Bool) (n : Nat) : ∀ (l : List Int), (∀ t ∈ l, 1 ≤ t ∧ t ≤ 16) → l.Nodup → par16 (fun p => f p && l.any fun t => decide ((n + 16 - t.toNat) % 16 = p)) = l.foldr (fun t a => f ((n + 16 - t.toNat) % 16) ^^ a) false
  | [], _, _ => by simp [par16]
  | t :: l, h, hd => by
    have ht := h t (List.mem_cons_self ..)
    have hl := fun x hx => h x (List.mem_cons_of_mem _ hx)
    rw [List.nodup_cons] at hd
    rw [List.foldr_cons, ← par_taps f n l hl hd.2, ← par16_one f ((n + 16 - t.toNat) % 16) (Nat.mod_lt _ (by omega)), ← par16_xor]
    refine par16_congr fun p hp => ?_
    rw [List.any_cons]
    by_cases e : (n + 16 - t.toNat) % 16 = p
    · have : (l.any fun t => decide ((n + 16 - t.toNat) % 16 = p)) = false := by
        rw [List.any_eq_false]
        intro x hx hxp
        have hx2 := hl x hx
        have hxp := of_decide_eq_true hxp
        have : x = t := by omega
        subst this
        exact hd.1 hx
      rw [this, decide_eq_true e]
      cases f p <;> rfl
    · rw [decide_eq_false e]
      cases f p <;> cases (l.any fun t => decide ((n + 16 - t.toNat) % 16 = p)) <;> rfl
theorem smF_par {q : List Nat} (hq : bitsN q) : ∀ (l : List Int) (a : Nat), a ≤ 1 → smF l q a = (decide (a ≠ 0) ^^ l.foldr (fun t a => decide (bk q t ≠ 0) ^^ a) false).toNat
  | [], a, ha => by
    have : a = 0 ∨ a = 1 := by omega
    rcases this with rfl | rfl <;> rfl
  | t :: l, a, ha => by
    show smF l q (a ^^^ bk q t) = _
    have hb := bk_le hq t
    rw [smF_par hq l _ (xor_le ha hb), List.foldr_cons]
    have h1 : a = 0 ∨ a = 1 := by omega
    have h2 : bk q t = 0 ∨ bk q t = 1 := by omega
    rcases h1 with rfl | rfl <;> rcases h2 with e | e <;> rw [e] <;> simp
theorem inc_nodup {l : List Int} (h : inc l = true) : l.Nodup := by
  rw [List.nodup_iff_pairwise_ne, List.pairwise_iff_getElem]
  intro i j hi hj hij e
  have := inc_far h (j - i) i (by omega)
  simp only [show i + (j - i) = j from by omega] at this
  omega
/-- The sum that the ring tells. -/
theorem ring_sum {l : List Int} {q : List Nat} (hl : tpOk l = true) (hq : bitsN q) (hw : wid l ≤ (q.length : Int)) : pop (rg q &&& rot (tm l) (q.length % 16)) % 2 = sm l q := by
  obtain ⟨h0, h1, h2⟩ := tpOk_parts hl
  have hm : ∀ t ∈ l, 1 ≤ t ∧ t ≤ 16 := fun t ht => by
    have := List.all_eq_true.1 h2 t ht
    exact of_decide_eq_true this
  have hmw : ∀ t ∈ l, t ≤ wid l := fun t ht => by
    obtain ⟨k, hk, rfl⟩ := List.getElem_of_mem ht
    exact (tpOk_le hl k hk).2
  have htm : tm l < 65536 := tmF_lt l 0 (by omega) (fun t ht => (hm t ht).1)
  rw [pop_par _ (Nat.lt_of_le_of_lt Nat.and_le_left (rg_lt q))]
  have e1 : par16 (rg q &&& rot (tm l) (q.length % 16)).testBit = par16 (fun p => (rg q).testBit p && l.any fun t => decide ((q.length + 16 - t.toNat) % 16 = p)) := by
    refine par16_congr fun p hp => ?_
    rw [Nat.testBit_and, rot_bit _ _ htm hp, tm_bit]
    congr 1
    apply Bool.eq_iff_iff.2
    rw [List.any_eq_true, List.any_eq_true]
    constructor
    · rintro ⟨t, ht, e⟩
      have := hm t ht
      have e := of_decide_eq_true e
      exact ⟨t, ht, decide_eq_true (by omega)⟩
    · rintro ⟨t, ht, e⟩
      have := hm t ht
      have e := of_decide_eq_true e
      exact ⟨t, ht, decide_eq_true (by omega)⟩
  rw [e1, par_taps _ _ l hm (inc_nodup h1)]
  unfold sm
  rw [smF_par hq l 0 (by omega)]
  have e2 : ∀ (m : List Int), (∀ t ∈ m, 1 ≤ t ∧ t ≤ 16 ∧ t ≤ wid l) → m.foldr (fun t a => (rg q).testBit ((q.length + 16 - t.toNat) % 16) ^^ a) false = m.foldr (fun t a => decide (bk q t ≠ 0) ^^ a) false := by
    intro m
    induction m with
    | nil => intro _; rfl
    | cons t m ih =>
      intro h
      have ht := h t (List.mem_cons_self ..)
      rw [List.foldr_cons, List.foldr_cons, ih (fun x hx => h x (List.mem_cons_of_mem _ hx))]
      congr 1
      have := rg_bit _ q rfl (q.length - t.toNat) (by omega) (by omega)
      rw [show (q.length + 16 - t.toNat) % 16 = (q.length - t.toNat) % 16 from by omega, this]
      rfl
  rw [e2 l (fun t ht => ⟨(hm t ht).1, (hm t ht).2, hmw t ht⟩)]
  simp
end Go.Proofs.Ytddlpbpcdjddpaa
