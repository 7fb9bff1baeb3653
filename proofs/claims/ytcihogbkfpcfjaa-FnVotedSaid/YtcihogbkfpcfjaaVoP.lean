/- Plain facts on repeated bits and votes. -/
import Derived.Test.YtcihogbkfpcfjaaOnes
namespace Go.Proofs.Ytcihogbkfpcfjaa
set_option linter.unusedVariables false
open Go Go.RowKit

def vtB (t : Int) : Bool := decide (1 ≤ t ∧ t ≤ 15) && decide (t % 2 = 1)
def rpL (l : List UInt8) (t : Nat) : List UInt8 := l.flatMap fun c => List.replicate t c
theorem rpL_nil (t : Nat) : rpL [] t = [] := rfl
theorem rpL_snoc (l : List UInt8) (c : UInt8) (t : Nat) : rpL (l ++ [c]) t = rpL l t ++ List.replicate t c := by simp [rpL]
theorem rpL_len (l : List UInt8) (t : Nat) : (rpL l t).length = l.length * t := by
  induction l with
  | nil => simp [rpL]
  | cons a l ih =>
    show (List.replicate t a ++ rpL l t).length = _
    rw [List.length_append, ih, List.length_replicate, List.length_cons, Nat.succ_mul]; omega
theorem rpL_inR (lo hi : Int) (l : List UInt8) (t : Nat) (h : inR lo hi l = true) : inR lo hi (rpL l t) = true := by
  unfold inR rpL at *
  rw [List.all_eq_true] at *
  intro c hc
  rw [List.mem_flatMap] at hc
  obtain ⟨x, hx, hc⟩ := hc
  rw [List.mem_replicate] at hc
  rw [hc.2]; exact h x hx
theorem rpL_at (l : List UInt8) (t : Nat) : ∀ (i k : Nat), k < t → (h : i < l.length) → (rpL l t)[i * t + k]? = some l[i] := by
  induction l with
  | nil => intro i k _ h; simp at h
  | cons a l ih =>
    intro i k hk h
    show (List.replicate t a ++ rpL l t)[i * t + k]? = _
    cases i with
    | zero => rw [Nat.zero_mul, Nat.zero_add, List.getElem?_append_left (by simpa using hk)]; simp [hk]
    | succ i =>
      rw [List.getElem?_append_right (by rw [List.length_replicate, Nat.succ_mul]; omega), List.length_replicate, show (i + 1) * t + k - t = i * t + k from by rw [Nat.succ_mul]; omega, ih i k hk (by simpa using h)]
      simp
def rpOk (l : List UInt8) (t : Int) : Bool := isB l && (vtB t && decide ((l.length : Int) * t ≤ 400))
def rpV (l : List UInt8) (t : Int) : ByteArray := if rpOk l t then ⟨(rpL l t.toNat).toArray⟩ else ⟨#[]⟩
/-- What most of a block are. -/
def vtC (b : List UInt8) (t : Int) : UInt8 := if t < 2 * onesL b then 49 else 48
def blkL (l : List UInt8) (t i : Nat) : List UInt8 := (l.drop (i * t)).take t
def voL (l : List UInt8) (t k : Nat) : List UInt8 := (List.range k).map fun i => vtC (blkL l t i) t
theorem voL_len (l : List UInt8) (t k : Nat) : (voL l t k).length = k := by simp [voL]
theorem voL_succ (l : List UInt8) (t k : Nat) : voL l t (k + 1) = voL l t k ++ [vtC (blkL l t k) t] := by simp [voL, List.range_succ]
def voOk (l : List UInt8) (t : Int) : Bool := isB l && (vtB t && decide ((l.length : Int) % t = 0))
def voV (l : List UInt8) (t : Int) : ByteArray := if voOk l t then ⟨(voL l t.toNat (l.length / t.toNat)).toArray⟩ else ⟨#[]⟩
theorem vtC_bit (b : List UInt8) (t : Int) : 48 ≤ ((vtC b t).toNat : Int) ∧ ((vtC b t).toNat : Int) ≤ 49 := by
  unfold vtC; split <;> decide
theorem ones_parts (b : List UInt8) (n : Nat) : onesL b = onesL (b.take n) + onesL (b.drop n) := by
  conv => lhs; rw [← List.take_append_drop n b]
  unfold onesL Lib.countByte
  rw [List.count_append]; omega
theorem ones_few {b : List UInt8} (n : Nat) (h : ∀ k x, n ≤ k → b[k]? = some x → x = 48) : onesL b ≤ n := by
  have e := ones_parts b n
  have h2 : onesL (b.drop n) = 0 := by
    unfold onesL Lib.countByte
    rw [List.count_eq_zero.2]
    · rfl
    · intro hx
      obtain ⟨i, hi, hx⟩ := List.mem_iff_getElem.1 hx
      have := h (n + i) (b.drop n)[i] (by omega) (by rw [← List.getElem?_drop, List.getElem?_eq_getElem hi])
      rw [hx] at this; exact absurd this (by decide)
  have := (onesL_bd (b.take n)).2
  rw [List.length_take] at this
  omega
theorem ones_many {b : List UInt8} (n : Nat) (h : ∀ k x, n ≤ k → b[k]? = some x → x = 49) : (b.length : Int) - n ≤ onesL b := by
  have e := ones_parts b n
  have h2 : onesL (b.drop n) = ((b.drop n).length : Nat) := by
    unfold onesL Lib.countByte
    rw [List.count_eq_length.2]
    intro x hx
    obtain ⟨i, hi, hx⟩ := List.mem_iff_getElem.1 hx
    have := h (n + i) (b.drop n)[i] (by omega) (by rw [← List.getElem?_drop, List.getElem?_eq_getElem hi])
    rw [hx] at this; exact this.symm
  have := (onesL_bd (b.take n)).1
  rw [List.length_drop] at h2
  omega
/-- Fewer than half of each block are changed: the votes are the bits. -/
theorem votes_back {l b : List UInt8} {t : Nat} (ht : t % 2 = 1) (hb : inR 48 49 l = true) (hl : b.length = l.length * t) (h : ∀ i (hi : i < l.length) k, t / 2 ≤ k → k < t → b[i * t + k]? = some l[i]) : voL b t l.length = l := by
  apply List.ext_getElem
  · rw [voL_len]
  · intro i h1 h2
    have e : (voL b t l.length)[i] = vtC (blkL b t i) t := by simp [voL]
    rw [e]
    have hle : i * t + t ≤ l.length * t := by
      have := Nat.mul_le_mul_right t (show i + 1 ≤ l.length by omega)
      rw [Nat.succ_mul] at this; exact this
    have hlen : (blkL b t i).length = t := by unfold blkL; rw [List.length_take, List.length_drop]; omega
    have hat : ∀ k x, t / 2 ≤ k → (blkL b t i)[k]? = some x → x = l[i] := by
      intro k x hk hx
      have hkt : k < t := by
        have := (List.getElem?_eq_some_iff.1 hx).1
        omega
      have h3 := h i h2 k hk hkt
      unfold blkL at hx
      rw [List.getElem?_take_of_lt hkt, List.getElem?_drop, h3] at hx
      injection hx with hx; exact hx.symm
    have hbit : l[i] = 48 ∨ l[i] = 49 := by
      unfold inR at hb
      rw [List.all_eq_true] at hb
      have := of_decide_eq_true (hb _ (List.getElem_mem h2))
      rcases (show (l[i].toNat : Int) = 48 ∨ (l[i].toNat : Int) = 49 by omega) with h | h
      · exact .inl (UInt8.toNat_inj.1 (by simpa using (by omega : l[i].toNat = 48)))
      · exact .inr (UInt8.toNat_inj.1 (by simpa using (by omega : l[i].toNat = 49)))
    unfold vtC
    rcases hbit with hx | hx
    · rw [hx] at hat
      have := ones_few (t / 2) hat
      rw [if_neg (by omega), hx]
    · rw [hx] at hat
      have := ones_many (t / 2) hat
      rw [hlen] at this
      rw [if_pos (by omega), hx]
theorem voL_inR (b : List UInt8) (t k : Nat) : inR 48 49 (voL b t k) = true := by
  unfold inR voL
  rw [List.all_eq_true]
  intro c hc
  rw [List.mem_map] at hc
  obtain ⟨i, -, rfl⟩ := hc
  exact decide_eq_true (vtC_bit _ _)
end Go.Proofs.Ytcihogbkfpcfjaa
