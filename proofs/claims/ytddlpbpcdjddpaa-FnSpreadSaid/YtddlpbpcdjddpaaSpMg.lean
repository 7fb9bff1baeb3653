/- Several texts in one: Plain facts on stuffing, without the program. | Stuffers: which are valid, the law's copy, both ValidStuffer. | A stuffer's digits; its flag: the model's. | The model stuffs bits: l04Stuff. | Slices of texts that are read: arguments and rows of the call's own; the law's own copy, comparison and count of them. -/
import Derived.Test.YtddlpbpcdjddpaaPl
import Derived.Test.YtddlpbpcdjddpaaBtw
import Derived.Test.YtddlpbpcdjddpaaBk
import Derived.Test.YtddlpbpcdjddpaaOwn
import Derived.Laws.Runes
import Derived.BigRegion
import Derived.Deep.RegionLaw
import Derived.Deep.AppendLies
import Derived.Test.YtddlpbpcdjddpaaProg
import Derived.OwnWalk
import Derived.WalkSpells
import Derived.WalkSmall
import Derived.Deep.QuietTactic
import Derived.BigQuiet
import Derived.SliceStrings
namespace Go.Proofs.Ytddlpbpcdjddpaa
set_option linter.unusedVariables false
open Go.RowKit

theorem snocInd {α : Type} {P : List α → Prop} (nil : P []) (snoc : ∀ l x, P l → P (l ++ [x])) (l : List α) : P l := by
  have h : ∀ m : List α, P m.reverse := by
    intro m
    induction m with
    | nil => exact nil
    | cons x m ih => rw [List.reverse_cons]; exact snoc _ _ ih
  have := h l.reverse
  rwa [List.reverse_reverse] at this
/-- One bit more: the stuffed bits, and the run at their end. -/
def stStep (a : Nat) (d o : UInt8) (p : List UInt8 × Nat) (x : UInt8) : List UInt8 × Nat :=
  if x = d then (if p.2 + 1 = a then (p.1 ++ [x, o], 0) else (p.1 ++ [x], p.2 + 1)) else (p.1 ++ [x], 0)
def stF (a : Nat) (d o : UInt8) (l : List UInt8) : List UInt8 × Nat := l.foldl (stStep a d o) ([], 0)
theorem stF_nil (a : Nat) (d o : UInt8) : stF a d o [] = ([], 0) := rfl
theorem stF_snoc (a : Nat) (d o : UInt8) (l : List UInt8) (x : UInt8) : stF a d o (l ++ [x]) = stStep a d o (stF a d o l) x := by simp [stF]
theorem stF_take (a : Nat) (d o : UInt8) (s : ByteArray) (k : Nat) (h : k < s.size) : stF a d o (s.data.toList.take (k + 1)) = stStep a d o (stF a d o (s.data.toList.take k)) s[k] := by
  rw [take_snoc s k h, stF_snoc]
theorem stStep_grows (a : Nat) (d o : UInt8) (p : List UInt8 × Nat) (x : UInt8) : ∃ t, (stStep a d o p x).1 = p.1 ++ t := by
  unfold stStep
  split
  · split
    · exact ⟨_, rfl⟩
    · exact ⟨_, rfl⟩
  · exact ⟨_, rfl⟩
theorem stFold_grows (a : Nat) (d o : UInt8) (l : List UInt8) : ∀ p : List UInt8 × Nat, ∃ t, (l.foldl (stStep a d o) p).1 = p.1 ++ t := by
  induction l with
  | nil => intro p; exact ⟨[], by simp⟩
  | cons x l ih =>
    intro p
    obtain ⟨t, ht⟩ := ih (stStep a d o p x)
    obtain ⟨u, hu⟩ := stStep_grows a d o p x
    exact ⟨u ++ t, by rw [List.foldl_cons, ht, hu, List.append_assoc]⟩
theorem stF_grows (a : Nat) (d o : UInt8) (l m : List UInt8) : ∃ t, (stF a d o (l ++ m)).1 = (stF a d o l).1 ++ t := by
  unfold stF; rw [List.foldl_append]; exact stFold_grows _ _ _ _ _
theorem stF_run (a : Nat) (d o : UInt8) (ha : 1 ≤ a) (l : List UInt8) : (stF a d o l).2 < a := by
  induction l using snocInd with
  | nil => exact ha
  | snoc l x ih =>
    rw [stF_snoc]; unfold stStep
    split
    · split
      · exact ha
      · have := ih; simp only; omega
    · exact ha
theorem stStep_len (a : Nat) (d o : UInt8) (p : List UInt8 × Nat) (x : UInt8) : p.1.length + 1 ≤ (stStep a d o p x).1.length ∧ (stStep a d o p x).1.length ≤ p.1.length + 2 := by
  unfold stStep
  split
  · split <;> simp
  · simp
theorem stF_len (a : Nat) (d o : UInt8) (l : List UInt8) : l.length ≤ (stF a d o l).1.length ∧ (stF a d o l).1.length ≤ 2 * l.length := by
  induction l using snocInd with
  | nil => simp [stF]
  | snoc l x ih =>
    rw [stF_snoc]
    have := stStep_len a d o (stF a d o l) x
    simp only [List.length_append, List.length_cons, List.length_nil]
    omega

/-- One stuffed bit more: the bits, and the run at their end. -/
def unStep (a : Nat) (d : UInt8) (p : List UInt8 × Nat) (x : UInt8) : List UInt8 × Nat :=
  if p.2 = a then (p.1, 0) else (p.1 ++ [x], if x = d then p.2 + 1 else 0)
def unF (a : Nat) (d : UInt8) (l : List UInt8) : List UInt8 × Nat := l.foldl (unStep a d) ([], 0)
theorem unF_nil (a : Nat) (d : UInt8) : unF a d [] = ([], 0) := rfl
theorem unF_snoc (a : Nat) (d : UInt8) (l : List UInt8) (x : UInt8) : unF a d (l ++ [x]) = unStep a d (unF a d l) x := by simp [unF]
theorem unF_take (a : Nat) (d : UInt8) (s : ByteArray) (k : Nat) (h : k < s.size) : unF a d (s.data.toList.take (k + 1)) = unStep a d (unF a d (s.data.toList.take k)) s[k] := by
  rw [take_snoc s k h, unF_snoc]
theorem unFold_grows (a : Nat) (d : UInt8) (l : List UInt8) : ∀ p : List UInt8 × Nat, ∃ t, (l.foldl (unStep a d) p).1 = p.1 ++ t := by
  induction l with
  | nil => intro p; exact ⟨[], by simp⟩
  | cons x l ih =>
    intro p
    obtain ⟨t, ht⟩ := ih (unStep a d p x)
    have hu : ∃ u, (unStep a d p x).1 = p.1 ++ u := by
      unfold unStep
      split
      · exact ⟨[], by simp⟩
      · exact ⟨_, rfl⟩
    obtain ⟨u, hu⟩ := hu
    exact ⟨u ++ t, by rw [List.foldl_cons, ht, hu, List.append_assoc]⟩
theorem unF_grows (a : Nat) (d : UInt8) (l m : List UInt8) : ∃ t, (unF a d (l ++ m)).1 = (unF a d l).1 ++ t := by
  unfold unF; rw [List.foldl_append]; exact unFold_grows _ _ _ _
theorem unF_len (a : Nat) (d : UInt8) (l : List UInt8) : (unF a d l).1.length ≤ l.length := by
  induction l using snocInd with
  | nil => simp [unF]
  | snoc l x ih =>
    rw [unF_snoc]; unfold unStep
    split
    · simp; omega
    · simp; omega
theorem unF_run (a : Nat) (d : UInt8) (l : List UInt8) : (unF a d l).2 ≤ a := by
  induction l using snocInd with
  | nil => exact Nat.zero_le _
  | snoc l x ih =>
    rw [unF_snoc]; unfold unStep
    split
    · exact Nat.zero_le _
    · rename_i h
      simp only
      split
      · omega
      · exact Nat.zero_le _

/-- Bits are stuffed. -/
def unOk (a : Nat) (d o : UInt8) (l : List UInt8) : Bool := decide ((stF a d o (unF a d l).1).1 = l)
/-- What has been read is stuffed, and the run at its end is known. -/
def upTo (a : Nat) (d o : UInt8) (l out : List UInt8) (r : Nat) : Prop := unF a d l = (out, r) ∧ stF a d o out = (l, r) ∧ r < a
theorem upTo_nil (a : Nat) (d o : UInt8) (ha : 1 ≤ a) : upTo a d o [] [] 0 := ⟨rfl, rfl, ha⟩
theorem upTo_other {a : Nat} {d o : UInt8} {l out : List UInt8} {r : Nat} (h : upTo a d o l out r) (ha : 1 ≤ a) (x : UInt8) (hx : ¬ x = d) : upTo a d o (l ++ [x]) (out ++ [x]) 0 := by
  obtain ⟨h1, h2, h3⟩ := h
  refine ⟨?_, ?_, ha⟩
  · rw [unF_snoc, h1]; simp [unStep, show ¬ r = a from by omega, hx]
  · rw [stF_snoc, h2]; simp [stStep, hx]
theorem upTo_digit {a : Nat} {d o : UInt8} {l out : List UInt8} {r : Nat} (h : upTo a d o l out r) (hr : r + 1 < a) : upTo a d o (l ++ [d]) (out ++ [d]) (r + 1) := by
  obtain ⟨h1, h2, h3⟩ := h
  refine ⟨?_, ?_, hr⟩
  · rw [unF_snoc, h1]; simp [unStep, show ¬ r = a from by omega]
  · rw [stF_snoc, h2]; simp [stStep, show ¬ r + 1 = a from by omega]
theorem upTo_full {a : Nat} {d o : UInt8} {l out : List UInt8} {r : Nat} (h : upTo a d o l out r) (hr : ¬ r + 1 < a) : unF a d (l ++ [d]) = (out ++ [d], a) ∧ stF a d o (out ++ [d]) = (l ++ [d, o], 0) := by
  obtain ⟨h1, h2, h3⟩ := h
  refine ⟨?_, ?_⟩
  · rw [unF_snoc, h1]; simp [unStep, show ¬ r = a from by omega]; omega
  · rw [stF_snoc, h2]; simp [stStep, show r + 1 = a from by omega]
theorem upTo_further {a : Nat} {d o : UInt8} {l out : List UInt8} {r : Nat} (h : upTo a d o l out r) (ha : 1 ≤ a) (hr : ¬ r + 1 < a) : upTo a d o (l ++ [d, o]) (out ++ [d]) 0 := by
  obtain ⟨h1, h2⟩ := upTo_full h hr
  refine ⟨?_, h2, ha⟩
  rw [show l ++ [d, o] = (l ++ [d]) ++ [o] from by simp, unF_snoc, h1]; simp [unStep]
theorem upTo_end {a : Nat} {d o : UInt8} {l out : List UInt8} {r : Nat} (h : upTo a d o l out r) : unOk a d o l = true ∧ (unF a d l).1 = out := by
  obtain ⟨h1, h2, h3⟩ := h
  exact ⟨by unfold unOk; rw [h1, h2]; simp, by rw [h1]⟩
/-- The bits end where a further one is due. -/
theorem upTo_short {a : Nat} {d o : UInt8} {l out : List UInt8} {r : Nat} (h : upTo a d o l out r) (hr : ¬ r + 1 < a) : unOk a d o (l ++ [d]) = false := by
  obtain ⟨h1, h2⟩ := upTo_full h hr
  unfold unOk
  rw [h1, h2, decide_eq_false]
  intro e
  have := congrArg List.length e
  simp at this
/-- Another bit stands where a further one is due. -/
theorem upTo_wrong {a : Nat} {d o : UInt8} {l out : List UInt8} {r : Nat} (h : upTo a d o l out r) (hr : ¬ r + 1 < a) (y : UInt8) (hy : ¬ y = o) (m : List UInt8) : unOk a d o (l ++ [d, y] ++ m) = false := by
  obtain ⟨h1, h2⟩ := upTo_full h hr
  unfold unOk
  apply decide_eq_false
  intro e
  obtain ⟨t, ht⟩ := unF_grows a d (l ++ [d]) (y :: m)
  rw [h1] at ht
  have e1 : l ++ [d, y] ++ m = (l ++ [d]) ++ (y :: m) := by simp
  rw [e1, ht] at e
  obtain ⟨u, hu⟩ := stF_grows a d o (out ++ [d]) t
  rw [h2] at hu
  simp only at e hu
  rw [hu] at e
  simp at e
  exact hy e.1.symm

/-- The run of the digit at the end of bits, and the longest one. -/
def lrStep (d : UInt8) (p : Nat × Nat) (x : UInt8) : Nat × Nat := if x = d then (p.1 + 1, max p.2 (p.1 + 1)) else (0, p.2)
def lrF (d : UInt8) (l : List UInt8) : Nat × Nat := l.foldl (lrStep d) (0, 0)
theorem lrF_snoc (d : UInt8) (l : List UInt8) (x : UInt8) : lrF d (l ++ [x]) = lrStep d (lrF d l) x := by simp [lrF]
theorem lrF_take (d : UInt8) (s : ByteArray) (k : Nat) (h : k < s.size) : lrF d (s.data.toList.take (k + 1)) = lrStep d (lrF d (s.data.toList.take k)) s[k] := by
  rw [take_snoc s k h, lrF_snoc]
theorem lrF_len (d : UInt8) (l : List UInt8) : (lrF d l).1 ≤ l.length ∧ (lrF d l).2 ≤ l.length := by
  induction l using snocInd with
  | nil => simp [lrF]
  | snoc l x ih =>
    rw [lrF_snoc]; unfold lrStep
    split
    · simp; omega
    · simp; omega
end Go.Proofs.Ytddlpbpcdjddpaa

namespace Go.Proofs.Ytddlpbpcdjddpaa
open Go Go.RowKit
set_option linter.unusedVariables false

theorem bk_two {W : World} {k : Nat} {x y : Value} (h : Bk W k [x, y]) : W.cell? ⟨k, 0, none⟩ = some x ∧ W.cell? ⟨k, 1, none⟩ = some y := ⟨h.c 0 _ rfl, h.c 1 _ rfl⟩
theorem i64_bnd {x : Int} (h : (Lit.int .i64 x).wf = true) : -9223372036854775808 ≤ x ∧ x ≤ 9223372036854775807 := by
  simp [Lit.wf, IntKind.min, IntKind.max, IntKind.signed, IntKind.bits] at h
  omega
/-- The cells of a stuffer. -/
def sV (a b : Int) : List Value := [.int .i64 a, .int .i64 b]
/-- Whether a stuffer is valid. -/
def sOk (a b : Int) : Bool := decide ((1 ≤ a ∧ a ≤ 10) ∧ (0 ≤ b ∧ b ≤ 1))
end Go.Proofs.Ytddlpbpcdjddpaa

namespace Go.Proofs.Ytddlpbpcdjddpaa
open Go Go.RowKit
set_option linter.unusedVariables false

/-- A stuffer's bit, and both digits as bytes of bits. -/
def Dg (b : Int) (d o : UInt8) : Prop := b = 0 ∧ d = 48 ∧ o = 49 ∨ b = 1 ∧ d = 49 ∧ o = 48
def dB (b : Int) : UInt8 := if b = 0 then 48 else 49
def oB (b : Int) : UInt8 := if b = 0 then 49 else 48
theorem dg_of {b : Int} (h : 0 ≤ b ∧ b ≤ 1) : Dg b (dB b) (oB b) := by
  rcases (show b = 0 ∨ b = 1 from by omega) with rfl | rfl
  · exact .inl ⟨rfl, rfl, rfl⟩
  · exact .inr ⟨rfl, rfl, rfl⟩
theorem conv_one (W : World) (c : UInt8) (x : Int) (hx : (c.toNat : Int) = x) : (convert 41 9 (.slice (some ⟨W.heap.size, 0, none⟩) 1 1)).run Try.prog (W.alloc (.cells #[.int .u8 x] 5)) = .ok (.string ⟨#[c]⟩) (W.alloc (.cells #[.int .u8 x] 5)) :=
  run_convert_bytes_back (P := Try.prog) (W.alloc (.cells #[.int .u8 x] 5)) 41 9 5 ⟨W.heap.size, 0, none⟩ 1 [c] Try.underlying41 Try.underlying5 Try.underlying9 (by
    intro i hi
    have h0 : i = 0 := by simp at hi; exact hi
    subst h0
    have ea : (⟨W.heap.size, 0, none⟩ : Addr).add 0 = ⟨W.heap.size, 0, none⟩ := by unfold Addr.add; split <;> simp_all
    rw [ea, World.cell?_alloc_at _ _ _ _ rfl]
    simp [hx])
/-- The flag. -/
def fl (n : Nat) (d o : UInt8) : ByteArray := ⟨([o] ++ List.replicate (n + 1) d ++ [o]).toArray⟩
def flP (k : Nat) (d o : UInt8) : ByteArray := ⟨([o] ++ List.replicate k d).toArray⟩
theorem flP_zero (d o : UInt8) : flP 0 d o = ⟨#[o]⟩ := rfl
theorem flP_succ (k : Nat) (d o : UInt8) : flP k d o ++ ⟨#[d]⟩ = flP (k + 1) d o := by
  apply ByteArray.ext
  simp [flP, List.replicate_succ']
theorem flP_end (n : Nat) (d o : UInt8) : flP (n + 1) d o ++ ⟨#[o]⟩ = fl n d o := by
  apply ByteArray.ext
  simp [flP, fl]
theorem flP_size (k : Nat) (d o : UInt8) : (flP k d o).size = k + 1 := by simp [flP, ByteArray.size]
theorem fl_size (n : Nat) (d o : UInt8) : (fl n d o).size = n + 3 := by simp [fl, ByteArray.size]

end Go.Proofs.Ytddlpbpcdjddpaa

namespace Go.Proofs.Ytddlpbpcdjddpaa
open Go Go.RowKit
set_option linter.unusedVariables false

theorem sv_cells {W : World} {k : Nat} {a b : Int} (h : Bk W k (sV a b)) : W.cell? ⟨k, 0, none⟩ = some (.int .i64 a) ∧ W.cell? ⟨k, 1, none⟩ = some (.int .i64 b) := bk_two h
theorem byte_of {c : UInt8} {n : Nat} (hn : n < 256) (h : (c.toNat : Int) = n) : c = UInt8.ofNat n := by
  apply UInt8.toNat_inj.1
  have e : (UInt8.ofNat n).toNat = n % 256 := rfl
  omega
theorem st_other {n : Nat} {d o x : UInt8} {L M : List UInt8} {r : Nat} (h : stF n d o L = (M, r)) (hx : x ≠ d) : stStep n d o (stF n d o L) x = (M ++ [x], 0) := by rw [h]; simp [stStep, hx]
theorem st_digit {n : Nat} {d o : UInt8} {L M : List UInt8} {r : Nat} (h : stF n d o L = (M, r)) (hr : ¬ r + 1 = n) : stStep n d o (stF n d o L) d = (M ++ [d], r + 1) := by rw [h]; simp [stStep, hr]
theorem st_full {n : Nat} {d o : UInt8} {L M : List UInt8} {r : Nat} (h : stF n d o L = (M, r)) (hr : r + 1 = n) : stStep n d o (stF n d o L) d = ((M ++ [d]) ++ [o], 0) := by rw [h]; simp [stStep, hr]
end Go.Proofs.Ytddlpbpcdjddpaa

namespace Go.Proofs.Ytddlpbpcdjddpaa
open Go Go.RowKit
set_option linter.unusedVariables false

theorem Try.infoStr : (Try.prog.info? 9).map (fun i => (i.zero, i.size, i.bytes)) = some (some (.string ByteArray.empty), 1, 16) := by kernel_rfl

/-- Texts as cells. -/
def strVals (l : List ByteArray) : List Value := l.map Value.string
theorem strVals_length (l : List ByteArray) : (strVals l).length = l.length := by simp [strVals]
theorem strVals_snoc (l : List ByteArray) (x : ByteArray) : strVals l ++ [.string x] = strVals (l ++ [x]) := by simp [strVals]
theorem strVals_at (l : List ByteArray) (k : Nat) (h : k < l.length) : (strVals l)[k]? = some (.string l[k]) := by simp [strVals, h]

/-- A slice of the call's own reads as texts. -/
def OwnT (w : World) (base : Nat) (v : Value) (l : List ByteArray) : Prop := w.ownsRow base 9 1 v l.length (strVals l)

theorem ownt_shape {w : World} {base : Nat} {e : TypeId} {size n : Nat} {v : Value} {xs : List Value} (h : w.ownsRow base e size v n xs) : ∃ A c, v = .slice A n c := by
  rcases h.2 with ⟨rfl, rfl⟩ | ⟨g, cap, cur, rfl, _⟩
  · exact ⟨_, _, rfl⟩
  · exact ⟨_, _, rfl⟩
theorem ownt_len {w : World} {base : Nat} {e : TypeId} {size n : Nat} {v : Value} {xs : List Value} (h : w.ownsRow base e size v n xs) : n ≤ maxLen := by
  rcases h.2 with ⟨rfl, rfl⟩ | ⟨g, cap, cur, rfl, hb, hg, hl, hm, _⟩
  · exact Nat.zero_le _
  · omega

/-- A row below a number stays where nothing below it turns. -/
theorem ownt_below {w w' : World} {base : Nat} {e : TypeId} {size n : Nat} {v : Value} {xs : List Value} (h : w.ownsRow base e size v n xs) (hb : Below w.heap.size w w') : w'.ownsRow base e size v n xs := by
  refine ⟨h.1, ?_⟩
  rcases h.2 with h' | ⟨g, cap, cur, rfl, h1, hg, h2, h3, h4, h5⟩
  · exact .inl h'
  · have hlt : g < w.heap.size := by
      rcases Nat.lt_or_ge g w.heap.size with h' | h'
      · exact h'
      · rw [Array.getElem?_eq_none h'] at hg; cases hg
    exact .inr ⟨g, cap, cur, rfl, h1, by rw [hb.block g hlt]; exact hg, h2, h3, h4, h5⟩

/-- A slice value reads as texts. -/
def RdS (w : World) (v : Value) (l : List ByteArray) : Prop :=
  ∃ (A : Option Addr) (n c : Nat), v = .slice A n c ∧ l.length = n ∧ n ≤ c ∧ c ≤ maxLen ∧
    (0 < n → ∃ b o, A = some ⟨b, o, none⟩ ∧ b < w.heap.size ∧ ∀ i (h : i < l.length), w.cell? ⟨b, o + i, none⟩ = some (.string l[i]))
theorem RdS.keep {w w' : World} {v : Value} {l : List ByteArray} (h : RdS w v l) (hb : Below w.heap.size w w') : RdS w' v l := by
  obtain ⟨A, n, c, e, hn, h1, h2, h3⟩ := h
  refine ⟨A, n, c, e, hn, h1, h2, fun h0 => ?_⟩
  obtain ⟨b, o, ea, hlt, hc⟩ := h3 h0
  exact ⟨b, o, ea, Nat.lt_of_lt_of_le hlt hb.size, fun i hi => (hb.cell (p := ⟨b, o + i, none⟩) hlt).trans (hc i hi)⟩
theorem RdS.drewN {w : World} {v : Value} {l : List ByteArray} (h : RdS w v l) (q : Nat) : RdS (w.drewN q) v l := by
  obtain ⟨A, n, c, e, hn, h1, h2, h3⟩ := h
  refine ⟨A, n, c, e, hn, h1, h2, fun h0 => ?_⟩
  obtain ⟨b, o, ea, hlt, hc⟩ := h3 h0
  exact ⟨b, o, ea, by simpa using hlt, fun i hi => by simpa using hc i hi⟩
theorem RdS.len {w : World} {v : Value} {l : List ByteArray} (h : RdS w v l) : l.length ≤ maxLen := by
  obtain ⟨A, n, c, e, hn, h1, h2, h3⟩ := h
  omega
theorem rds_sh {w : World} {v : Value} {l : List ByteArray} (h : RdS w v l) : ∃ A c, v = .slice A l.length c := by
  obtain ⟨A, n, c, e, hn, -⟩ := h
  exact ⟨A, c, by rw [e, hn]⟩
/-- A row of the call's own is one. -/
theorem OwnT.rds {w : World} {base : Nat} {v : Value} {l : List ByteArray} (h : OwnT w base v l) : RdS w v l := by
  have hl := ownt_len h
  rcases h.2 with ⟨rfl, h0⟩ | ⟨g, cap, cur, rfl, h1, hg, h2, h3, h4, h5⟩
  · exact ⟨none, 0, 0, rfl, h0, Nat.le_refl _, Nat.zero_le _, fun h => by omega⟩
  · refine ⟨_, _, _, rfl, rfl, h2, h3, fun _ => ⟨g, 0, rfl, ?_, fun i hi => ?_⟩⟩
    · rcases Nat.lt_or_ge g w.heap.size with h' | h'
      · exact h'
      · rw [Array.getElem?_eq_none h'] at hg; cases hg
    · have := (World.ownsRow.cellAt (w := w) (base := base) h i (by omega)).trans (strVals_at l i hi)
      rw [Nat.zero_add]; exact this
theorem OwnT.keep {w w' : World} {base : Nat} {v : Value} {l : List ByteArray} (h : OwnT w base v l) (hb : Below w.heap.size w w') : OwnT w' base v l := ownt_below h hb
theorem OwnT.set {w : World} {base : Nat} {v : Value} {l : List ByteArray} (h : OwnT w base v l) {a : Addr} (ha : a.block < base) (x : Value) : OwnT (w.setCell a x) base v l := ownsRow_setCell_below h ha x

theorem OwnT.base {w : World} {base base' : Nat} {v : Value} {l : List ByteArray} (h : OwnT w base v l) (hle : base' ≤ base) : OwnT w base' v l := by
  refine ⟨h.1, ?_⟩
  rcases h.2 with h' | ⟨g, cap, cur, h1, h2, h3⟩
  · exact .inl h'
  · exact .inr ⟨g, cap, cur, h1, by omega, h3⟩

def spart (l : List ByteArray) (n k : Nat) : List Value := strVals (l.take k) ++ List.replicate (n - k) (Value.string ByteArray.empty)
theorem spart_zero (l : List ByteArray) (n : Nat) : spart l n 0 = List.replicate n (Value.string ByteArray.empty) := by simp [spart, strVals]
theorem spart_full (l : List ByteArray) (n : Nat) (h : l.length = n) : spart l n n = strVals l := by simp [spart, ← h]
theorem spart_length (l : List ByteArray) (n k : Nat) (h : l.length = n) (hk : k ≤ n) : (spart l n k).length = n := by simp [spart, strVals]; omega
theorem spart_set (l : List ByteArray) (n k : Nat) (hl : l.length = n) (hk : k < n) : (spart l n k).set k (.string (l[k]'(by omega))) = spart l n (k + 1) := by
  unfold spart
  have e : (strVals (l.take k)).length = k := by simp [strVals]; omega
  rw [List.set_append, if_neg (by omega), e, Nat.sub_self, List.take_succ_eq_append_getElem (by omega), ← strVals_snoc]
  obtain ⟨m, hm⟩ : ∃ m, n - k = m + 1 := ⟨n - k - 1, by omega⟩
  rw [hm, show n - (k + 1) = m from by omega, List.replicate_succ]
  simp

def szStr : Int → List ByteArray → Int
  | left, [] => left
  | left, s :: ss => if left - s.size < 0 then -1 else szStr (left - s.size) ss
def szS (g : List ByteArray) (left : Int) : Int := if left - g.length < 0 then -1 else szStr (left - g.length) g
theorem szStr_le : ∀ (ss : List ByteArray) (left : Int), 0 ≤ left → -1 ≤ szStr left ss ∧ szStr left ss ≤ left
  | [], left, h => by rw [szStr]; omega
  | r :: rs, left, h => by
    rw [szStr]
    split
    · omega
    · have := szStr_le rs (left - r.size) (by omega)
      omega
theorem szS_le (g : List ByteArray) (left : Int) (h : 0 ≤ left) : -1 ≤ szS g left ∧ szS g left ≤ left := by
  unfold szS
  split
  · omega
  · have := szStr_le g (left - g.length) (by omega)
    omega
theorem szStr_ok : ∀ (ss : List ByteArray) (left : Int), 0 ≤ szStr left ss → ∀ s ∈ ss, (s.size : Int) ≤ left
  | [], left, h, r, hr => by simp at hr
  | x :: rs, left, h, r, hr => by
    rw [szStr] at h
    split at h
    · omega
    · rcases List.mem_cons.1 hr with rfl | h'
      · omega
      · have := szStr_ok rs _ h r h'
        omega
theorem szS_ok (g : List ByteArray) (left : Int) (h : 0 ≤ szS g left) : (g.length : Int) ≤ left ∧ ∀ s ∈ g, (s.size : Int) ≤ left := by
  unfold szS at h
  split at h
  · omega
  · refine ⟨by omega, fun r hr => ?_⟩
    have := szStr_ok g _ h r hr
    omega

end Go.Proofs.Ytddlpbpcdjddpaa

