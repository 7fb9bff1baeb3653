/- Readers of a complete code, and what a changed bit costs: plain facts. -/
import Derived.Test.YtijmfienaoeboaaTrQ
namespace Go.Proofs.Ytijmfienaoeboaa
open Go Go.RowKit
set_option linter.unusedVariables false

/-- What a reader has read of a word behind some bits. -/
def stt (ws : List Bs) (s : Bs) : Bs := s.foldl (rdOn ws) []
theorem stt_nil (ws : List Bs) : stt ws [] = [] := rfl
theorem stt_snoc (ws : List Bs) (s : Bs) (c : UInt8) : stt ws (s ++ [c]) = rdOn ws (stt ws s) c := by simp [stt, List.foldl_append]
theorem stt_rdr {ws : List Bs} (C : Cmp ws) : ∀ (n : Nat) (s : Bs), s.length = n → bt s → Rdr ws (stt ws s) := by
  intro n
  induction n with
  | zero => intro s h _; rw [List.length_eq_zero_iff] at h; subst h; exact C.root
  | succ n ih =>
    intro s h hb
    rcases List.eq_nil_or_concat s with rfl | ⟨r, c, rfl⟩
    · simp at h
    · rw [List.concat_eq_append] at *
      rw [stt_snoc]
      exact (C.on (ih r (by simp at h; omega) (fun x hx => hb x (by simp [hx]))) c (hb c (by simp))).2
/-- Where words end for a reader: behind the bits i, i + 1, .. -/
def endsP (P : Nat → Bool) (i m : Nat) : List Int := ((List.range' i m).filter P).map fun j => ((j + 1 : Nat) : Int)
theorem endsP_cons (P : Nat → Bool) (i m : Nat) : endsP P i (m + 1) = if P i = true then ((i + 1 : Nat) : Int) :: endsP P (i + 1) m else endsP P (i + 1) m := by
  unfold endsP
  rw [List.range'_succ, List.filter_cons]
  split <;> rfl
theorem endsP_snoc (P : Nat → Bool) (i m : Nat) : endsP P i (m + 1) = if P (i + m) = true then endsP P i m ++ [((i + m + 1 : Nat) : Int)] else endsP P i m := by
  unfold endsP
  have e : List.range' i (m + 1) = List.range' i m ++ [i + m] := by
    have := @List.range'_concat 1 i m
    rw [Nat.one_mul] at this; exact this
  rw [e, List.filter_append, List.map_append]
  by_cases h : P (i + m) = true
  · rw [if_pos h]; simp [h]
  · rw [if_neg h]; simp [h]
theorem endsP_len (P : Nat → Bool) (i m : Nat) : (endsP P i m).length ≤ m := by
  unfold endsP
  rw [List.length_map]
  have := List.length_filter_le P (List.range' i m)
  simpa using this
theorem endsP_mem (P : Nat → Bool) (m j : Nat) (h : j < m) : ((j + 1 : Nat) : Int) ∈ endsP P 0 m ↔ P j = true := by
  unfold endsP
  rw [List.mem_map]
  constructor
  · rintro ⟨x, hx, e⟩
    rw [List.mem_filter] at hx
    have : x = j := by omega
    subst this
    exact hx.2
  · intro h'
    refine ⟨j, ?_, rfl⟩
    rw [List.mem_filter, List.mem_range']
    exact ⟨⟨j, h, by omega⟩, h'⟩
theorem endsP_bd (P : Nat → Bool) (m : Nat) : ∀ x ∈ endsP P 0 m, 1 ≤ x ∧ x ≤ (m : Int) := by
  intro x hx
  unfold endsP at hx
  rw [List.mem_map] at hx
  obtain ⟨j, hj, rfl⟩ := hx
  rw [List.mem_filter, List.mem_range'] at hj
  obtain ⟨⟨i, hi, e⟩, _⟩ := hj
  omega
/-- The loss: P and Q tell behind which bits a word ends in what is sent and in what is read. -/
def flF (P Q : Nat → Bool) (a : Int) : Nat → Nat → Int → Option (Int × Int)
  | 0, _, _ => none
  | m + 1, i, n => if (i : Int) < a then flF P Q a m (i + 1) n else if P i = true then (if Q i = true then some (n + 1, ((i + 1 : Nat) : Int)) else flF P Q a m (i + 1) (n + 1)) else flF P Q a m (i + 1) n
/-- The same over the ends. -/
def flG (a : Int) (other : List Int) : List Int → Int → Option (Int × Int)
  | [], _ => none
  | e :: es, n => if e ≤ a then flG a other es n else if e ∈ other then some (n + 1, e) else flG a other es (n + 1)
theorem flG_flF (P Q : Nat → Bool) (a : Int) (M : Nat) : ∀ (m i : Nat) (n : Int), i + m = M → flG a (endsP Q 0 M) (endsP P i m) n = flF P Q a m i n
  | 0, i, n, h => rfl
  | m + 1, i, n, h => by
    rw [endsP_cons, flF]
    have ih := fun n => flG_flF P Q a M m (i + 1) n (by omega)
    by_cases hp : P i = true
    · rw [if_pos hp, flG]
      by_cases ha : (i : Int) < a
      · rw [if_pos (by omega), if_pos ha, ih]
      · rw [if_neg (by omega), if_neg ha, if_pos hp]
        by_cases hq : Q i = true
        · rw [if_pos ((endsP_mem Q M i (by omega)).2 hq), if_pos hq]
        · rw [if_neg (fun e => hq ((endsP_mem Q M i (by omega)).1 e)), if_neg hq, ih]
    · rw [if_neg hp]
      by_cases ha : (i : Int) < a
      · rw [if_pos ha, ih]
      · rw [if_neg ha, if_neg hp, ih]
/-- The other bit, and bits with one changed. -/
def oth (c : UInt8) : UInt8 := if c = 48 then 49 else 48
def chg (s : Bs) (a : Nat) : Bs := s.take a ++ [oth (s.getD a 48)] ++ s.drop (a + 1)
theorem chg_len (s : Bs) (a : Nat) (h : a < s.length) : (chg s a).length = s.length := by unfold chg; simp; omega
theorem chg_at (s : Bs) (a k : Nat) (h : a < s.length) (hk : k < s.length) (hk' : k < (chg s a).length) : (chg s a)[k] = if k = a then oth s[k] else s[k] := by
  have hd : s.getD a 48 = s[a] := by simp [List.getD, h]
  simp only [chg]
  by_cases e : k = a
  · subst e
    rw [if_pos rfl, List.getElem_append_left (by simp; omega), List.getElem_append_right (by simp; omega)]
    simp [List.getElem?_eq_getElem h]
  · rw [if_neg e]
    rcases Nat.lt_or_ge k a with h1 | h1
    · rw [List.getElem_append_left (by simp; omega), List.getElem_append_left (by simp; omega)]; simp
    · rw [List.getElem_append_right (by simp; omega)]
      simp only [List.length_append, List.length_take, List.length_cons, List.length_nil, List.getElem_drop]
      congr 1
      omega
theorem oth_bt {c : UInt8} : oth c = 48 ∨ oth c = 49 := by unfold oth; split; exact .inr rfl; exact .inl rfl
theorem chg_bt {s : Bs} (a : Nat) (h : bt s) : bt (chg s a) := by
  intro c hc
  unfold chg at hc
  rcases List.mem_append.1 hc with h1 | h1
  · rcases List.mem_append.1 h1 with h2 | h2
    · exact h c (List.mem_of_mem_take h2)
    · simp at h2; subst h2; exact oth_bt
  · exact h c (List.mem_of_mem_drop h1)
/-- Whether a word ends behind the bit i. -/
def endB (ws : List Bs) (s : Bs) (i : Nat) : Bool := decide (stt ws (s.take (i + 1)) = [])
/-- The loss of a changed bit. -/
def lossO (ws : List Bs) (s : Bs) (a : Nat) : Option (Int × Int) := flF (endB ws s) (endB ws (chg s a)) a s.length 0 0
theorem take_len_bt {s : Bs} (h : bt s) (k : Nat) : bt (s.take k) := fun c hc => h c (List.mem_of_mem_take hc)
end Go.Proofs.Ytijmfienaoeboaa
