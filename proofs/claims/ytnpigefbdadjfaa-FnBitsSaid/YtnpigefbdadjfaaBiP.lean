/- What FnBits asks of what the functions answer, plain. -/
import Derived.Test.YtnpigefbdadjfaaOC
import Derived.Test.YtnpigefbdadjfaaNum
import Derived.Test.YtnpigefbdadjfaaDig
import Derived.Test.YtnpigefbdadjfaaRlC
import Derived.Test.YtnpigefbdadjfaaOnes
import Derived.Test.YtnpigefbdadjfaaRev
import Derived.Test.YtnpigefbdadjfaaXor
namespace Go.Proofs.Ytnpigefbdadjfaa
set_option linter.unusedVariables false
open Go Go.RowKit

theorem inR_snocB {l : List UInt8} {c : UInt8} (h : inR 48 49 (l ++ [c]) = true) : inR 48 49 l = true ∧ 48 ≤ (c.toNat : Int) ∧ (c.toNat : Int) ≤ 49 := by
  unfold inR at *
  rw [List.all_append, Bool.and_eq_true_iff] at h
  refine ⟨h.1, ?_⟩
  have h2 := h.2
  simp only [List.all_cons, List.all_nil, Bool.and_true] at h2
  exact of_decide_eq_true h2
theorem list_snoc_indB {α : Type} {P : List α → Prop} (h0 : P []) (h1 : ∀ l x, P l → P (l ++ [x])) (l : List α) : P l := by
  have : ∀ n (l : List α), l.length = n → P l := by
    intro n
    induction n with
    | zero => intro l hl; rw [List.length_eq_zero_iff.1 hl]; exact h0
    | succ n ih =>
      intro l hl
      have hne : l ≠ [] := by intro e; rw [e] at hl; simp at hl
      rw [← List.dropLast_concat_getLast hne]
      exact h1 _ _ (ih _ (by rw [List.length_dropLast]; omega))
  exact this _ l rfl
theorem dg_low (v c : Int) (h0 : 0 ≤ c) (h1 : c ≤ 1) : dg (2 * v + c) 0 = UInt8.ofNat (48 + c.toNat) := by
  unfold dg
  have e : (2 * v + c) / 2 ^ 0 % 2 = c := by rw [Int.pow_zero, Int.ediv_one]; omega
  rw [e]
theorem dg_up (v c : Int) (i : Nat) (h0 : 0 ≤ c) (h1 : c ≤ 1) : dg (2 * v + c) (i + 1) = dg v i := by
  unfold dg
  have e : (2 * v + c) / 2 ^ (i + 1) = v / 2 ^ i := by
    rw [show (2 : Int) ^ (i + 1) = 2 * 2 ^ i from by rw [Int.pow_succ]; omega, ← Int.ediv_ediv_of_nonneg (by decide), show (2 * v + c) / 2 = v from by omega]
  rw [e]
/-- The digits of the number of bits are the bits. -/
theorem digs_valN (l : List UInt8) : inR 48 49 l = true → digs (valN l) l.length l.length = l := by
  refine list_snoc_indB (P := fun l => inR 48 49 l = true → digs (valN l) l.length l.length = l) (fun _ => rfl) ?_ l
  intro l c ih h
  obtain ⟨hl, c0, c1⟩ := inR_snocB h
  have ih := ih hl
  rw [valN_snoc]
  unfold digs at *
  rw [List.length_append, List.length_singleton, List.range_succ, List.map_append]
  congr 1
  · rw [← ih]
    simp only [List.length_map, List.length_range]
    apply List.map_congr_left
    intro j hj
    have hj' := List.mem_range.1 hj
    rw [show l.length + 1 - 1 - j = (l.length - 1 - j) + 1 from by omega, dg_up _ _ _ (by omega) (by omega), ih]
  · simp only [List.map_cons, List.map_nil, Nat.add_sub_cancel, Nat.sub_self]
    rw [dg_low _ _ (by omega) (by omega), show 48 + ((c.toNat : Int) - 48).toNat = c.toNat from by omega]
    simp
/-- In how many of the first k places the runs of bits begin. -/
def chN (l : List UInt8) : Nat → Nat
  | 0 => 0
  | k + 1 => chN l k + if k = 0 ∨ l[k]? ≠ l[k - 1]? then 1 else 0
theorem runsK_len (l : List UInt8) : ∀ k, (runsK l k).length = chN l k
  | 0 => rfl
  | k + 1 => by
    by_cases h : k = 0 ∨ l[k]? ≠ l[k - 1]?
    · rw [runsK_new l k h, List.length_append, runsK_len l k]
      show _ = chN l k + _
      rw [if_pos h]; rfl
    · rw [runsK_old l k h, List.length_set, runsK_len l k]
      show _ = chN l k + _
      rw [if_neg h]; rfl
theorem chN_le (l : List UInt8) : ∀ k, chN l k ≤ k
  | 0 => Nat.le_refl _
  | k + 1 => by
    have := chN_le l k
    unfold chN
    split <;> omega
theorem sum_set_last (xs : List Int) (h : 0 < xs.length) : (xs.set (xs.length - 1) (xs.getD (xs.length - 1) 0 + 1)).sum = xs.sum + 1 := by
  have hne : xs ≠ [] := by intro e; rw [e] at h; simp at h
  obtain ⟨ys, y, rfl⟩ : ∃ ys y, xs = ys ++ [y] := ⟨_, _, (List.dropLast_concat_getLast hne).symm⟩
  have e1 : (ys ++ [y]).length - 1 = ys.length := by simp
  rw [e1, List.getD, List.getElem?_append_right (Nat.le_refl _), Nat.sub_self, List.set_append_right _ _ (Nat.le_refl _), Nat.sub_self]
  simp only [List.getElem?_cons_zero, Option.getD_some, List.set_cons_zero, List.sum_append, List.sum_singleton]
  omega
theorem runsK_sum (l : List UInt8) : ∀ k, (runsK l k).sum = (k : Int)
  | 0 => rfl
  | k + 1 => by
    by_cases h : k = 0 ∨ l[k]? ≠ l[k - 1]?
    · rw [runsK_new l k h, List.sum_append, runsK_sum l k, List.sum_singleton]; omega
    · have h0 : 0 < k := by omega
      rw [runsK_old l k h, sum_set_last _ (runsK_pos l k h0), runsK_sum l k]; omega
theorem runsK_nn (l : List UInt8) (k : Nat) : ∀ x ∈ runsK l k, 0 ≤ x := by
  intro x hx
  obtain ⟨j, hj, rfl⟩ := List.getElem_of_mem hx
  have := (runsK_bd l k j).1
  rwa [List.getD, List.getElem?_eq_getElem hj] at this
theorem sum_nnB (l : List Int) (h : ∀ x ∈ l, 0 ≤ x) : 0 ≤ l.sum := by
  induction l with
  | nil => exact Int.le_refl _
  | cons x l ih =>
    have := ih (fun y hy => h y (List.mem_cons_of_mem _ hy))
    have := h x (List.mem_cons_self ..)
    rw [List.sum_cons]; omega
theorem sum_partB (l : List Int) (h : ∀ x ∈ l, 0 ≤ x) (k : Nat) : 0 ≤ (l.take k).sum ∧ (l.take k).sum ≤ l.sum := by
  have h1 := sum_nnB (l.take k) (fun x hx => h x (List.mem_of_mem_take hx))
  have h2 := sum_nnB (l.drop k) (fun x hx => h x (List.mem_of_mem_drop hx))
  have h3 : l.sum = (l.take k).sum + (l.drop k).sum := by rw [← List.sum_append, List.take_append_drop]
  omega
/-- In how many of the first k places both lists have a bit 1. -/
def boN (a b : List UInt8) : Nat → Nat
  | 0 => 0
  | k + 1 => boN a b k + if a.getD k 0 = 49 ∧ b.getD k 0 = 49 then 1 else 0
theorem boN_le (a b : List UInt8) : ∀ k, boN a b k ≤ k
  | 0 => Nat.le_refl _
  | k + 1 => by
    have := boN_le a b k
    unfold boN
    split <;> omega
theorem take_snocB (l : List UInt8) (k : Nat) (h : k < l.length) : l.take (k + 1) = l.take k ++ [l.getD k 0] := by
  rw [List.take_succ_eq_append_getElem h, List.getD, List.getElem?_eq_getElem h]; rfl
theorem inR_takeB {l : List UInt8} (h : inR 48 49 l = true) (k : Nat) : inR 48 49 (l.take k) = true := by
  unfold inR at *
  rw [List.all_eq_true] at *
  exact fun x hx => h x (List.mem_of_mem_take hx)
theorem inR_getDB {l : List UInt8} (h : inR 48 49 l = true) (k : Nat) (hk : k < l.length) : (l.getD k 0 = 48 ∨ l.getD k 0 = 49) := by
  unfold inR at h
  rw [List.all_eq_true] at h
  have := of_decide_eq_true (h _ (List.getElem_mem hk))
  rw [List.getD, List.getElem?_eq_getElem hk]
  show l[k] = 48 ∨ l[k] = 49
  rcases (show l[k].toNat = 48 ∨ l[k].toNat = 49 from by omega) with h | h
  · exact .inl (UInt8.toNat_inj.1 h)
  · exact .inr (UInt8.toNat_inj.1 h)
theorem and_next (a b c d : Nat) (hc : c ≤ 1) (hd : d ≤ 1) : pop ((2 * a + c) &&& (2 * b + d)) = pop (a &&& b) + if c = 1 ∧ d = 1 then 1 else 0 := by
  rw [and_split2, show (2 * a + c) % 2 = c from by omega, show (2 * b + d) % 2 = d from by omega, show (2 * a + c) / 2 = a from by omega, show (2 * b + d) / 2 = b from by omega, pop_eq]
  have e : c &&& d = if c = 1 ∧ d = 1 then 1 else 0 := by
    rcases (show c = 0 ∨ c = 1 from by omega) with rfl | rfl <;> rcases (show d = 0 ∨ d = 1 from by omega) with rfl | rfl <;> decide
  rw [e]
  generalize a &&& b = x
  split
  · rw [show (1 + 2 * x) % 2 = 1 from by omega, show (1 + 2 * x) / 2 = x from by omega]; omega
  · rw [show (0 + 2 * x) % 2 = 0 from by omega, show (0 + 2 * x) / 2 = x from by omega]; omega
theorem pop_both {a b : List UInt8} (ha : inR 48 49 a = true) (hb : inR 48 49 b = true) (hl : a.length = b.length) : ∀ k, k ≤ a.length → pop ((valN (a.take k)).toNat &&& (valN (b.take k)).toNat) = boN a b k
  | 0, _ => by simp [valN, boN, pop_zero]
  | k + 1, hk => by
    have ih := pop_both ha hb hl k (by omega)
    have v1 := valN_bd _ _ rfl (inR_takeB ha k)
    have v2 := valN_bd _ _ rfl (inR_takeB hb k)
    rw [take_snocB a k (by omega), take_snocB b k (by omega), valN_snoc, valN_snoc]
    unfold boN
    rw [← ih]
    rcases inR_getDB ha k (by omega) with e1 | e1 <;> rcases inR_getDB hb k (by omega) with e2 | e2 <;> rw [e1, e2]
    · rw [show (2 * valN (a.take k) + (((48 : UInt8).toNat : Int) - 48)).toNat = 2 * (valN (a.take k)).toNat + 0 from by have : ((48 : UInt8).toNat : Int) = 48 := rfl; omega, show (2 * valN (b.take k) + (((48 : UInt8).toNat : Int) - 48)).toNat = 2 * (valN (b.take k)).toNat + 0 from by have : ((48 : UInt8).toNat : Int) = 48 := rfl; omega, and_next _ _ _ _ (by decide) (by decide)]; rfl
    · rw [show (2 * valN (a.take k) + (((48 : UInt8).toNat : Int) - 48)).toNat = 2 * (valN (a.take k)).toNat + 0 from by have : ((48 : UInt8).toNat : Int) = 48 := rfl; omega, show (2 * valN (b.take k) + (((49 : UInt8).toNat : Int) - 48)).toNat = 2 * (valN (b.take k)).toNat + 1 from by have : ((49 : UInt8).toNat : Int) = 49 := rfl; omega, and_next _ _ _ _ (by decide) (by decide)]; rfl
    · rw [show (2 * valN (a.take k) + (((49 : UInt8).toNat : Int) - 48)).toNat = 2 * (valN (a.take k)).toNat + 1 from by have : ((49 : UInt8).toNat : Int) = 49 := rfl; omega, show (2 * valN (b.take k) + (((48 : UInt8).toNat : Int) - 48)).toNat = 2 * (valN (b.take k)).toNat + 0 from by have : ((48 : UInt8).toNat : Int) = 48 := rfl; omega, and_next _ _ _ _ (by decide) (by decide)]; rfl
    · rw [show (2 * valN (a.take k) + (((49 : UInt8).toNat : Int) - 48)).toNat = 2 * (valN (a.take k)).toNat + 1 from by have : ((49 : UInt8).toNat : Int) = 49 := rfl; omega, show (2 * valN (b.take k) + (((49 : UInt8).toNat : Int) - 48)).toNat = 2 * (valN (b.take k)).toNat + 1 from by have : ((49 : UInt8).toNat : Int) = 49 := rfl; omega, and_next _ _ _ _ (by decide) (by decide)]; rfl
theorem revK_inR (l : List UInt8) (h : inR 48 49 l = true) : inR 48 49 (revK l l.length) = true := by
  unfold inR at *
  rw [List.all_eq_true] at *
  intro c hc
  unfold revK at hc
  rw [List.mem_map] at hc
  obtain ⟨j, hj, rfl⟩ := hc
  have hj' := List.mem_range.1 hj
  rw [List.getD, List.getElem?_eq_getElem (show l.length - 1 - j < l.length by omega)]
  exact h _ (List.getElem_mem _)
theorem revK_back (l : List UInt8) : revK (revK l l.length) l.length = l := by
  refine List.ext_getElem (by rw [revK_length]) fun i h1 h2 => ?_
  rw [revK_at _ _ _ h2, revK_length, List.getD, List.getElem?_eq_getElem (by rw [revK_length]; omega)]
  show (revK l l.length)[l.length - 1 - i]'_ = _
  rw [revK_at _ _ _ (by omega), List.getD, List.getElem?_eq_getElem (show l.length - 1 - (l.length - 1 - i) < l.length by omega)]
  show l[l.length - 1 - (l.length - 1 - i)]'_ = _
  congr 1; omega
/-- All that the calls of FnBits answer. -/
structure BitsRow (L O : List UInt8) (n : Nat) (v m p : Int) (R X : List UInt8) : Prop where
  nob1 : nobOk L = true
  nob2 : nobOk O = true
  val1 : valN L = v
  val2 : valN O = m
  v0 : 0 ≤ v
  vn : v < 2 ^ n
  v6 : v ≤ 9223372036854775807
  m0 : 0 ≤ m
  m6 : m ≤ 9223372036854775807
  back : digs v n n = L
  isb : isB L = true
  isbO : isB O = true
  ones : onesA L = onesL L
  runs : rl L = runsK L n
  rlen : (runsK L n).length = chN L n
  rsum : (runsK L n).sum = (n : Int)
  rpart : ∀ k, 0 ≤ ((runsK L n).take k).sum ∧ ((runsK L n).take k).sum ≤ (n : Int)
  rev : revA ⟨L.toArray⟩ = ⟨R.toArray⟩
  rev2 : revA ⟨R.toArray⟩ = ⟨L.toArray⟩
  isbR : isB R = true
  rl : R.length = n
  rat : ∀ i, i < n → R.getD (n - 1 - i) 0 = L.getD i 0
  xor : xorB L O n = X
  xl : X.length = n
  xat : ∀ i, i < n → X.getD i 0 = if L.getD i 0 = O.getD i 0 then 48 else 49
  par : parOk v m = true
  parv : parV v m = p
  both : p = ((boN L O n % 2 : Nat) : Int)
theorem bits_row {L O : List UInt8} {n : Nat} (hL : L.length = n) (hO : O.length = n) (hn : n ≤ 40) (iL : inR 48 49 L = true) (iO : inR 48 49 O = true) :
    ∃ (v m p : Int) (R X : List UInt8), BitsRow L O n v m p R X := by
  subst hL
  have bL : isB L = true := by unfold isB; rw [iL, decide_eq_true (by omega)]; rfl
  have bO : isB O = true := by unfold isB; rw [iO, decide_eq_true (by omega)]; rfl
  have b1 := valN_bd _ _ rfl iL
  have b2 := valN_bd _ _ rfl iO
  have c1 := valN_60 L (by omega) iL
  have c2 := valN_60 O (by omega) iO
  have hs : (⟨L.toArray⟩ : ByteArray).size = L.length := by show L.toArray.size = _; simp
  have bR : isB (revK L L.length) = true := by unfold isB; rw [revK_inR L iL, revK_length, decide_eq_true (by omega)]; rfl
  have hs2 : (⟨(revK L L.length).toArray⟩ : ByteArray).size = L.length := by show (revK L L.length).toArray.size = _; simp [revK_length]
  have e1 : revA ⟨L.toArray⟩ = ⟨(revK L L.length).toArray⟩ := by
    unfold revA
    rw [if_pos bL, hs]
  have e2 : revA ⟨(revK L L.length).toArray⟩ = ⟨L.toArray⟩ := by
    unfold revA
    rw [if_pos bR, hs2]
    show (⟨(revK (revK L L.length) L.length).toArray⟩ : ByteArray) = _
    rw [revK_back]
  have pk : parOk (valN L) (valN O) = true := decide_eq_true ⟨b1.1, b2.1⟩
  refine ⟨valN L, valN O, parV (valN L) (valN O), revK L L.length, xorB L O L.length, ?_⟩
  refine ⟨by unfold nobOk; rw [bL, decide_eq_true (by omega)]; rfl, by unfold nobOk; rw [bO, decide_eq_true (by omega)]; rfl, rfl, rfl, b1.1, b1.2, by omega, b2.1, by omega, digs_valN L iL, bL, bO,
    by unfold onesA; rw [if_pos bL], by unfold rl; rw [if_pos bL], runsK_len L _, runsK_sum L _, fun k => ?_, e1, e2, bR, revK_length _ _, fun i hi => ?_, rfl, xorB_length _ _ _, fun i hi => ?_, pk, rfl, ?_⟩
  · have := sum_partB (runsK L L.length) (runsK_nn L _) k
    rw [runsK_sum] at this
    exact this
  · rw [List.getD, List.getElem?_eq_getElem (by rw [revK_length]; omega)]
    show (revK L L.length)[L.length - 1 - i]'_ = _
    rw [revK_at _ _ _ (by omega)]
    congr 1; omega
  · rw [List.getD, List.getElem?_eq_getElem (by rw [xorB_length]; exact hi)]
    show (xorB L O L.length)[i]'_ = _
    unfold xorB
    rw [List.getElem_map, List.getElem_range, List.getElem?_eq_getElem hi, List.getElem?_eq_getElem (by omega), List.getD, List.getD, List.getElem?_eq_getElem hi, List.getElem?_eq_getElem (show i < O.length by omega)]
    simp only [Option.some.injEq, Option.getD_some]
  · unfold parV parN
    rw [if_pos pk]
    have := pop_both iL iO hO.symm L.length (Nat.le_refl _)
    rw [List.take_length, List.take_of_length_le (by omega)] at this
    rw [this]
end Go.Proofs.Ytnpigefbdadjfaa
