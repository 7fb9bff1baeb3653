/- Plain facts on stuffing, without the program. -/
import Derived.Test.YtddlpbpcdjddpaaPl
namespace Go.Proofs.Ytddlpbpcdjddpaa
set_option linter.unusedVariables false
open Go.RowKit

theorem snocInd {α : Type} {P : List α → Prop} (nil : P []) (snoc : ∀ l x, P l → P (l ++ [x])) (l : List α) : P l := by
  have h : ∀ m : List α, P m.reverse := by
    intro m
    induction m with
    | nil => exact nil
    | cons x m ih => rw [List.reverse_cons]; exact snoc _ _ ih
  have := h l.reverse
  rwa [List.reverse_reverse] at this
/-- One bit more: the stuffed bits, and the run at their end. -/
def stStep (a : Nat) (d o : UInt8) (p : List UInt8 × Nat) (x : UInt8) : List UInt8 × Nat :=
  if x = d then (if p.2 + 1 = a then (p.1 ++ [x, o], 0) else (p.1 ++ [x], p.2 + 1)) else (p.1 ++ [x], 0)
def stF (a : Nat) (d o : UInt8) (l : List UInt8) : List UInt8 × Nat := l.foldl (stStep a d o) ([], 0)
theorem stF_nil (a : Nat) (d o : UInt8) : stF a d o [] = ([], 0) := rfl
theorem stF_snoc (a : Nat) (d o : UInt8) (l : List UInt8) (x : UInt8) : stF a d o (l ++ [x]) = stStep a d o (stF a d o l) x := by simp [stF]
theorem stF_take (a : Nat) (d o : UInt8) (s : ByteArray) (k : Nat) (h : k < s.size) : stF a d o (s.data.toList.take (k + 1)) = stStep a d o (stF a d o (s.data.toList.take k)) s[k] := by
  rw [take_snoc s k h, stF_snoc]
theorem stStep_grows (a : Nat) (d o : UInt8) (p : List UInt8 × Nat) (x : UInt8) : ∃ t, (stStep a d o p x).1 = p.1 ++ t := by
  unfold stStep
  split
  · split
    · exact ⟨_, rfl⟩
    · exact ⟨_, rfl⟩
  · exact ⟨_, rfl⟩
theorem stFold_grows (a : Nat) (d o : UInt8) (l : List UInt8) : ∀ p : List UInt8 × Nat, ∃ t, (l.foldl (stStep a d o) p).1 = p.1 ++ t := by
  induction l with
  | nil => intro p; exact ⟨[], by simp⟩
  | cons x l ih =>
    intro p
    obtain ⟨t, ht⟩ := ih (stStep a d o p x)
    obtain ⟨u, hu⟩ := stStep_grows a d o p x
    exact ⟨u ++ t, by rw [List.foldl_cons, ht, hu, List.append_assoc]⟩
theorem stF_grows (a : Nat) (d o : UInt8) (l m : List UInt8) : ∃ t, (stF a d o (l ++ m)).1 = (stF a d o l).1 ++ t := by
  unfold stF; rw [List.foldl_append]; exact stFold_grows _ _ _ _ _
theorem stF_run (a : Nat) (d o : UInt8) (ha : 1 ≤ a) (l : List UInt8) : (stF a d o l).2 < a := by
  induction l using snocInd with
  | nil => exact ha
  | snoc l x ih =>
    rw [stF_snoc]; unfold stStep
    split
    · split
      · exact ha
      · have := ih; simp only; omega
    · exact ha
theorem stStep_len (a : Nat) (d o : UInt8) (p : List UInt8 × Nat) (x : UInt8) : p.1.length + 1 ≤ (stStep a d o p x).1.length ∧ (stStep a d o p x).1.length ≤ p.1.length + 2 := by
  unfold stStep
  split
  · split <;> simp
  · simp
theorem stF_len (a : Nat) (d o : UInt8) (l : List UInt8) : l.length ≤ (stF a d o l).1.length ∧ (stF a d o l).1.length ≤ 2 * l.length := by
  induction l using snocInd with
  | nil => simp [stF]
  | snoc l x ih =>
    rw [stF_snoc]
    have := stStep_len a d o (stF a d o l) x
    simp only [List.length_append, List.length_cons, List.length_nil]
    omega

/-- One stuffed bit more: the bits, and the run at their end. -/
def unStep (a : Nat) (d : UInt8) (p : List UInt8 × Nat) (x : UInt8) : List UInt8 × Nat :=
  if p.2 = a then (p.1, 0) else (p.1 ++ [x], if x = d then p.2 + 1 else 0)
def unF (a : Nat) (d : UInt8) (l : List UInt8) : List UInt8 × Nat := l.foldl (unStep a d) ([], 0)
theorem unF_nil (a : Nat) (d : UInt8) : unF a d [] = ([], 0) := rfl
theorem unF_snoc (a : Nat) (d : UInt8) (l : List UInt8) (x : UInt8) : unF a d (l ++ [x]) = unStep a d (unF a d l) x := by simp [unF]
theorem unF_take (a : Nat) (d : UInt8) (s : ByteArray) (k : Nat) (h : k < s.size) : unF a d (s.data.toList.take (k + 1)) = unStep a d (unF a d (s.data.toList.take k)) s[k] := by
  rw [take_snoc s k h, unF_snoc]
theorem unFold_grows (a : Nat) (d : UInt8) (l : List UInt8) : ∀ p : List UInt8 × Nat, ∃ t, (l.foldl (unStep a d) p).1 = p.1 ++ t := by
  induction l with
  | nil => intro p; exact ⟨[], by simp⟩
  | cons x l ih =>
    intro p
    obtain ⟨t, ht⟩ := ih (unStep a d p x)
    have hu : ∃ u, (unStep a d p x).1 = p.1 ++ u := by
      unfold unStep
      split
      · exact ⟨[], by simp⟩
      · exact ⟨_, rfl⟩
    obtain ⟨u, hu⟩ := hu
    exact ⟨u ++ t, by rw [List.foldl_cons, ht, hu, List.append_assoc]⟩
theorem unF_grows (a : Nat) (d : UInt8) (l m : List UInt8) : ∃ t, (unF a d (l ++ m)).1 = (unF a d l).1 ++ t := by
  unfold unF; rw [List.foldl_append]; exact unFold_grows _ _ _ _
theorem unF_len (a : Nat) (d : UInt8) (l : List UInt8) : (unF a d l).1.length ≤ l.length := by
  induction l using snocInd with
  | nil => simp [unF]
  | snoc l x ih =>
    rw [unF_snoc]; unfold unStep
    split
    · simp; omega
    · simp; omega
theorem unF_run (a : Nat) (d : UInt8) (l : List UInt8) : (unF a d l).2 ≤ a := by
  induction l using snocInd with
  | nil => exact Nat.zero_le _
  | snoc l x ih =>
    rw [unF_snoc]; unfold unStep
    split
    · exact Nat.zero_le _
    · rename_i h
      simp only
      split
      · omega
      · exact Nat.zero_le _

/-- Bits are stuffed. -/
def unOk (a : Nat) (d o : UInt8) (l : List UInt8) : Bool := decide ((stF a d o (unF a d l).1).1 = l)
/-- What has been read is stuffed, and the run at its end is known. -/
def upTo (a : Nat) (d o : UInt8) (l out : List UInt8) (r : Nat) : Prop := unF a d l = (out, r) ∧ stF a d o out = (l, r) ∧ r < a
theorem upTo_nil (a : Nat) (d o : UInt8) (ha : 1 ≤ a) : upTo a d o [] [] 0 := ⟨rfl, rfl, ha⟩
theorem upTo_other {a : Nat} {d o : UInt8} {l out : List UInt8} {r : Nat} (h : upTo a d o l out r) (ha : 1 ≤ a) (x : UInt8) (hx : ¬ x = d) : upTo a d o (l ++ [x]) (out ++ [x]) 0 := by
  obtain ⟨h1, h2, h3⟩ := h
  refine ⟨?_, ?_, ha⟩
  · rw [unF_snoc, h1]; simp [unStep, show ¬ r = a from by omega, hx]
  · rw [stF_snoc, h2]; simp [stStep, hx]
theorem upTo_digit {a : Nat} {d o : UInt8} {l out : List UInt8} {r : Nat} (h : upTo a d o l out r) (hr : r + 1 < a) : upTo a d o (l ++ [d]) (out ++ [d]) (r + 1) := by
  obtain ⟨h1, h2, h3⟩ := h
  refine ⟨?_, ?_, hr⟩
  · rw [unF_snoc, h1]; simp [unStep, show ¬ r = a from by omega]
  · rw [stF_snoc, h2]; simp [stStep, show ¬ r + 1 = a from by omega]
theorem upTo_full {a : Nat} {d o : UInt8} {l out : List UInt8} {r : Nat} (h : upTo a d o l out r) (hr : ¬ r + 1 < a) : unF a d (l ++ [d]) = (out ++ [d], a) ∧ stF a d o (out ++ [d]) = (l ++ [d, o], 0) := by
  obtain ⟨h1, h2, h3⟩ := h
  refine ⟨?_, ?_⟩
  · rw [unF_snoc, h1]; simp [unStep, show ¬ r = a from by omega]; omega
  · rw [stF_snoc, h2]; simp [stStep, show r + 1 = a from by omega]
theorem upTo_further {a : Nat} {d o : UInt8} {l out : List UInt8} {r : Nat} (h : upTo a d o l out r) (ha : 1 ≤ a) (hr : ¬ r + 1 < a) : upTo a d o (l ++ [d, o]) (out ++ [d]) 0 := by
  obtain ⟨h1, h2⟩ := upTo_full h hr
  refine ⟨?_, h2, ha⟩
  rw [show l ++ [d, o] = (l ++ [d]) ++ [o] from by simp, unF_snoc, h1]; simp [unStep]
theorem upTo_end {a : Nat} {d o : UInt8} {l out : List UInt8} {r : Nat} (h : upTo a d o l out r) : unOk a d o l = true ∧ (unF a d l).1 = out := by
  obtain ⟨h1, h2, h3⟩ := h
  exact ⟨by unfold unOk; rw [h1, h2]; simp, by rw [h1]⟩
/-- The bits end where a further one is due. -/
theorem upTo_short {a : Nat} {d o : UInt8} {l out : List UInt8} {r : Nat} (h : upTo a d o l out r) (hr : ¬ r + 1 < a) : unOk a d o (l ++ [d]) = false := by
  obtain ⟨h1, h2⟩ := upTo_full h hr
  unfold unOk
  rw [h1, h2, decide_eq_false]
  intro e
  have := congrArg List.length e
  simp at this
/-- Another bit stands where a further one is due. -/
theorem upTo_wrong {a : Nat} {d o : UInt8} {l out : List UInt8} {r : Nat} (h : upTo a d o l out r) (hr : ¬ r + 1 < a) (y : UInt8) (hy : ¬ y = o) (m : List UInt8) : unOk a d o (l ++ [d, y] ++ m) = false := by
  obtain ⟨h1, h2⟩ := upTo_full h hr
  unfold unOk
  apply decide_eq_false
  intro e
  obtain ⟨t, ht⟩ := unF_grows a d (l ++ [d]) (y :: m)
  rw [h1] at ht
  have e1 : l ++ [d, y] ++ m = (l ++ [d]) ++ (y :: m) := by simp
  rw [e1, ht] at e
  obtain ⟨u, hu⟩ := stF_grows a d o (out ++ [d]) t
  rw [h2] at hu
  simp only at e hu
  rw [hu] at e
  simp at e
  exact hy e.1.symm

/-- The run of the digit at the end of bits, and the longest one. -/
def lrStep (d : UInt8) (p : Nat × Nat) (x : UInt8) : Nat × Nat := if x = d then (p.1 + 1, max p.2 (p.1 + 1)) else (0, p.2)
def lrF (d : UInt8) (l : List UInt8) : Nat × Nat := l.foldl (lrStep d) (0, 0)
theorem lrF_snoc (d : UInt8) (l : List UInt8) (x : UInt8) : lrF d (l ++ [x]) = lrStep d (lrF d l) x := by simp [lrF]
theorem lrF_take (d : UInt8) (s : ByteArray) (k : Nat) (h : k < s.size) : lrF d (s.data.toList.take (k + 1)) = lrStep d (lrF d (s.data.toList.take k)) s[k] := by
  rw [take_snoc s k h, lrF_snoc]
theorem lrF_len (d : UInt8) (l : List UInt8) : (lrF d l).1 ≤ l.length ∧ (lrF d l).2 ≤ l.length := by
  induction l using snocInd with
  | nil => simp [lrF]
  | snoc l x ih =>
    rw [lrF_snoc]; unfold lrStep
    split
    · simp; omega
    · simp; omega
end Go.Proofs.Ytddlpbpcdjddpaa
