/- Several texts in one: Plain facts on the key in front of a key, without the program: the turned taps. | What FindKey answers (plain). | Keys: what FnKeys asks, plain. | Two rows of numbers that a call fills beside each other. | The model's l06Descramble and SelfDescramble. | The model's SelfDescramble. | Both WorstBits. | Plain: levels, their sums, longest equal parts, changes, signs. | Both RunLengths: the program's counts equal bytes of a list. | A text made bytes: the row. | Both RunLengths (the program by lengthsOfRuns), and the walk of their law. | Both LongestSame. | Keys: what FnKeys asks of what the functions answer, plain. | r8At: a number drawn from bytes. | slices.Reverse of numbers. | The program's turnedTaps. | The program's FindKey. | The walk of the law FnKeys. | For all two rows of bytes, the law FnKeys returns true and leaves its arguments as they were; no condition. -/
import Derived.Test.YtddlpbpcdjddpaaKpp
import Derived.Test.YtddlpbpcdjddpaaKys
import Derived.Test.YtddlpbpcdjddpaaAds
import Derived.Test.YtddlpbpcdjddpaaKpi
import Derived.Test.YtddlpbpcdjddpaaRd
import Derived.Deep.AppendLies
import Derived.Test.YtddlpbpcdjddpaaSbs
import Derived.Test.YtddlpbpcdjddpaaScb
import Derived.Lib.Repeat
import Derived.Test.YtddlpbpcdjddpaaPl
import Derived.Test.YtddlpbpcdjddpaaRuns
import Derived.Test.YtddlpbpcdjddpaaRdv
import Derived.Test.YtddlpbpcdjddpaaOwn
import Derived.Laws.IdiomStrings
import Derived.Test.YtddlpbpcdjddpaaMax
import Derived.Test.YtddlpbpcdjddpaaBtw
import Derived.Test.YtddlpbpcdjddpaaSrc
import Derived.Test.YtddlpbpcdjddpaaTp
import Derived.Test.YtddlpbpcdjddpaaKyi
import Derived.Test.YtddlpbpcdjddpaaXorI
import Derived.Test.YtddlpbpcdjddpaaR8s
import Derived.Laws.Concat
import Derived.Test.YtddlpbpcdjddpaaRows
import Derived.ProofKit
import Derived.OpenShut
import Derived.ShutString
import Derived.ChangeOld
import Derived.Below
import Derived.Carry
namespace Go.Proofs.Ytddlpbpcdjddpaa
set_option linter.unusedVariables false
open Go Go.RowKit
theorem smF_acc (q : List Nat) : ∀ (l : List Int) (a : Nat), smF l q a = a ^^^ smF l q 0
  | [], a => by simp [smF]
  | t :: l, a => by
    show smF l q (a ^^^ bk q t) = a ^^^ smF l q (0 ^^^ bk q t)
    rw [smF_acc q l (a ^^^ bk q t), smF_acc q l (0 ^^^ bk q t), Nat.zero_xor, Nat.xor_assoc]
theorem smF_cons (t : Int) (l : List Int) (q : List Nat) : smF (t :: l) q 0 = bk q t ^^^ smF l q 0 := by
  show smF l q (0 ^^^ bk q t) = _
  rw [Nat.zero_xor, smF_acc]
theorem smF_rev (q : List Nat) : ∀ (l : List Int), smF l.reverse q 0 = smF l q 0
  | [] => rfl
  | t :: l => by rw [List.reverse_cons, smF_snoc, smF_rev q l, smF_cons, Nat.xor_comm]
/-- The turned taps, as the program makes them ahead of turning the list, and behind it. -/
def trL (l : List Int) : List Int := wid l :: l.dropLast.map (wid l - ·)
def trn (l : List Int) : List Int := (trL l).reverse
theorem trL_len (l : List Int) (h : 0 < l.length) : (trL l).length = l.length := by simp [trL]; omega
theorem trn_len (l : List Int) (h : 0 < l.length) : (trn l).length = l.length := by simp [trn, trL]; omega
theorem drop_mem {l : List Int} (ht : tpOk l = true) {t : Int} (h : t ∈ l.dropLast) : 1 ≤ t ∧ t < wid l := by
  obtain ⟨h0, hi, hr⟩ := tpOk_parts ht
  obtain ⟨k, hk, e⟩ := List.getElem_of_mem h
  rw [List.length_dropLast] at hk
  rw [List.getElem_dropLast] at e
  have h1 := tpOk_le ht k (by omega)
  have h2 := inc_far hi (l.length - 1 - k) k (by omega)
  rw [wid_at h0]
  simp only [show k + (l.length - 1 - k) = l.length - 1 from by omega] at h2
  omega
/-- The bit in front of a sequence, as the model finds it. -/
def bbF (m : List Int) (S : List Nat) (w : Nat) (a : Nat) : Nat := m.foldl (fun a t => a ^^^ S.getD (w - 1 - t.toNat) 0) a
def bb (l : List Int) (S : List Nat) : Nat := bbF l.dropLast S (wid l).toNat (S.getD ((wid l).toNat - 1) 0)
theorem bbF_snoc (m : List Int) (t : Int) (S : List Nat) (w a : Nat) : bbF (m ++ [t]) S w a = bbF m S w a ^^^ S.getD (w - 1 - t.toNat) 0 := by simp [bbF]
def bq (l : List Int) (S : List Nat) : Nat → List Nat
  | 0 => S
  | k + 1 => bb l (bq l S k) :: bq l S k
theorem bq_len (l : List Int) (S : List Nat) : ∀ k, (bq l S k).length = S.length + k
  | 0 => rfl
  | k + 1 => by simp [bq, bq_len l S k]; omega
theorem bk_rev {S : List Nat} {t : Int} (h : t ≤ (S.length : Int)) (h1 : 1 ≤ t) : bk S.reverse t = S.getD (t.toNat - 1) 0 := by
  unfold bk
  rw [List.length_reverse, List.getD, List.getD, List.getElem?_reverse (by omega)]
  congr 2
  omega
theorem smF_turn {S : List Nat} {W : Int} (hW : W ≤ (S.length : Int)) : ∀ (m : List Int) (a : Nat), (∀ t ∈ m, 1 ≤ t ∧ t < W) → smF (m.map (W - ·)) S.reverse a = bbF m S W.toNat a
  | [], a, _ => rfl
  | t :: m, a, h => by
    have ht := h t (List.mem_cons_self ..)
    show smF (m.map (W - ·)) S.reverse (a ^^^ bk S.reverse (W - t)) = bbF m S W.toNat (a ^^^ S.getD (W.toNat - 1 - t.toNat) 0)
    rw [smF_turn hW m _ (fun x hx => h x (List.mem_cons_of_mem _ hx)), bk_rev (by omega) (by omega), show (W - t).toNat - 1 = W.toNat - 1 - t.toNat from by omega]
theorem sm_turn {l : List Int} {S : List Nat} (ht : tpOk l = true) (hW : wid l ≤ (S.length : Int)) : sm (trn l) S.reverse = bb l S := by
  have hw := tpOk_wid ht
  unfold sm trn
  rw [smF_rev]
  show smF (l.dropLast.map (wid l - ·)) S.reverse (0 ^^^ bk S.reverse (wid l)) = _
  rw [smF_turn hW _ _ (fun t h => drop_mem ht h), Nat.zero_xor, bk_rev hW hw.1]
  rfl
theorem kq_turn {l : List Int} {S : List Nat} (ht : tpOk l = true) (hW : wid l ≤ (S.length : Int)) : ∀ k, kq (trn l) S.reverse k = (bq l S k).reverse
  | 0 => rfl
  | k + 1 => by
    show kq (trn l) S.reverse k ++ [sm (trn l) (kq (trn l) S.reverse k)] = (bb l (bq l S k) :: bq l S k).reverse
    rw [kq_turn ht hW k, sm_turn ht (by rw [bq_len]; omega), List.reverse_cons]
/-- The bits in front, the last one first: the state's text. -/
def bst (l : List Int) (S : List Nat) (k : Nat) : List Nat := ((bq l S k).take k).reverse
theorem kb_turn {l : List Int} {S : List Nat} (ht : tpOk l = true) (hW : wid l ≤ (S.length : Int)) (k : Nat) : kb (trn l) S.reverse k = bst l S k := by
  unfold kb bst
  rw [kq_turn ht hW, List.length_reverse, List.drop_reverse, bq_len, show S.length + k - S.length = k from by omega]
theorem bst_succ (l : List Int) (S : List Nat) (k : Nat) : bst l S (k + 1) = bst l S k ++ [bb l (bq l S k)] := by
  show ((bb l (bq l S k) :: bq l S k).take (k + 1)).reverse = _
  rw [List.take_succ_cons, List.reverse_cons]; rfl
theorem bbF_le {S : List Nat} (hS : bitsN S) (w : Nat) : ∀ (m : List Int) (a : Nat), a ≤ 1 → bbF m S w a ≤ 1
  | [], a, h => h
  | t :: m, a, h => bbF_le hS w m _ (xor_le h (by
      rw [List.getD]
      cases e : S[w - 1 - t.toNat]?
      · simp
      · exact hS _ (List.mem_of_getElem? e)))
theorem bq_bits {l : List Int} {S : List Nat} (hS : bitsN S) : ∀ k, bitsN (bq l S k)
  | 0 => hS
  | k + 1 => fun x hx => by
    rcases List.mem_cons.1 hx with rfl | hx
    · refine bbF_le (bq_bits hS k) _ _ _ ?_
      rw [List.getD]
      cases e : (bq l S k)[(wid l).toNat - 1]?
      · simp
      · exact bq_bits hS k _ (List.mem_of_getElem? e)
    · exact bq_bits hS k x hx
theorem bst_bits {l : List Int} {S : List Nat} (hS : bitsN S) (k : Nat) : bitsN (bst l S k) := fun x hx => bq_bits hS k x (List.mem_of_mem_take (List.mem_reverse.1 hx))
theorem bst_len (l : List Int) (S : List Nat) (k : Nat) : (bst l S k).length = k := by
  rw [bst, List.length_reverse, List.length_take, bq_len]; omega
theorem trL_get (l : List Int) (i : Nat) (h : i < l.length) : (trL l).getD i 0 = if i = 0 then wid l else wid l - l.getD (i - 1) 0 := by
  cases i with
  | zero => rfl
  | succ i =>
    rw [if_neg (by omega), trL, List.getD_cons_succ, List.getD, List.getElem?_map, List.getElem?_dropLast, if_pos (by omega), List.getElem?_eq_getElem (by omega), List.getD, Nat.add_sub_cancel, List.getElem?_eq_getElem (by omega)]
    rfl
theorem trn_get (l : List Int) (i : Nat) (h : i < l.length) : (trn l).getD i 0 = if i = l.length - 1 then wid l else wid l - l.getD (l.length - 2 - i) 0 := by
  unfold trn
  rw [List.getD, List.getElem?_reverse (by rw [trL_len l (by omega)]; omega), trL_len l (by omega), ← List.getD, trL_get l _ (by omega)]
  by_cases e : i = l.length - 1
  · rw [if_pos (by omega), if_pos e]
  · rw [if_neg (by omega), if_neg e, show l.length - 1 - i - 1 = l.length - 2 - i from by omega]
theorem getD_mem {l : List Int} (k : Nat) (hk : k < l.length) : l.getD k 0 = l[k] := by rw [List.getD, List.getElem?_eq_getElem hk]; rfl
theorem trn_ok {l : List Int} (ht : tpOk l = true) : tpOk (trn l) = true ∧ wid (trn l) = wid l := by
  obtain ⟨h0, hi, hr⟩ := tpOk_parts ht
  have hw := tpOk_wid ht
  have hn := trn_len l h0
  have hwid : wid (trn l) = wid l := by
    show (trn l).getD ((trn l).length - 1) 0 = _
    rw [hn, trn_get l _ (by omega), if_pos rfl]
  refine ⟨?_, hwid⟩
  have hg : ∀ k, k + 1 < l.length → 1 ≤ l.getD k 0 ∧ l.getD k 0 + 1 ≤ wid l := fun k hk => by
    have h2 := inc_far hi (l.length - 1 - k) k (by omega)
    have h1 := tpOk_le ht k (by omega)
    simp only [show k + (l.length - 1 - k) = l.length - 1 from by omega] at h2
    rw [getD_mem k (by omega), wid_at h0]
    omega
  unfold tpOk
  rw [Bool.and_eq_true, Bool.and_eq_true]
  refine ⟨decide_eq_true (by omega), ?_, tpR_upto fun k hk => ?_⟩
  · unfold inc
    rw [List.all_eq_true]
    intro j hj
    rw [List.mem_range, hn] at hj
    by_cases hj0 : j = 0
    · subst hj0; rfl
    · have h1 := trn_get l j hj
      have h2 := trn_get l (j - 1) (by omega)
      rw [if_neg (by omega)] at h2
      have h3 := hg (l.length - 2 - (j - 1)) (by omega)
      rw [Bool.or_eq_true]
      refine .inr (decide_eq_true ?_)
      rw [h1, h2]
      by_cases e : j = l.length - 1
      · rw [if_pos e]; omega
      · rw [if_neg e]
        have h4 := inc_far hi 1 (l.length - 2 - j) (by omega)
        rw [getD_mem _ (by omega), getD_mem _ (by omega)]
        simp only [show l.length - 2 - (j - 1) = l.length - 2 - j + 1 from by omega]
        omega
  · rw [hn] at hk
    have h1 := trn_get l k hk
    rw [getD_mem k (by omega)] at h1
    rw [h1]
    by_cases e : k = l.length - 1
    · rw [if_pos e]; exact hw
    · rw [if_neg e]
      have := hg (l.length - 2 - k) (by omega)
      omega
end Go.Proofs.Ytddlpbpcdjddpaa

namespace Go.Proofs.Ytddlpbpcdjddpaa
set_option linter.unusedVariables false
open Go Go.RowKit
theorem inR_two {g : List UInt8} (hg : inR 48 49 g = true) (i : Nat) (h : i < g.length) : g[i] = 48 ∨ g[i] = 49 := by
  have hy := of_decide_eq_true (List.all_eq_true.1 hg g[i] (List.getElem_mem h))
  have : g[i].toNat = 48 ∨ g[i].toNat = 49 := by omega
  rcases this with h | h
  · exact .inl (UInt8.toNat_inj.1 h)
  · exact .inr (UInt8.toNat_inj.1 h)
theorem tx_gb {g : List UInt8} (hg : inR 48 49 g = true) : tx (gb g) = g := by
  apply List.ext_getElem
  · rw [tx_len, gb_len]
  · intro i h1 h2
    rw [tx_get (gb g) i h1 (by rw [gb_len]; exact h2)]
    simp only [gb, List.getElem_map]
    rcases inR_two hg i h2 with e | e <;> rw [e] <;> rfl
theorem gb_tx {M : List Nat} (h : bitsN M) : gb (tx M) = M := by
  apply List.ext_getElem
  · rw [gb_len, tx_len]
  · intro i h1 h2
    have hk := h M[i] (List.getElem_mem h2)
    have : M[i] = 0 ∨ M[i] = 1 := by omega
    simp only [gb, tx, List.getElem_map]
    rcases this with e | e <;> rw [e] <;> rfl
theorem stQ_gb (s : List UInt8) : stQ s = (gb s).reverse := by simp [stQ, gb]
theorem stQ_tx {M : List Nat} (h : bitsN M) : stQ (tx M) = M.reverse := by rw [stQ_gb, gb_tx h]
theorem xorB_inR (a b : List UInt8) (n : Nat) : inR 48 49 (xorB a b n) = true := by
  unfold inR
  rw [List.all_eq_true]
  intro x hx
  obtain ⟨j, -, rfl⟩ := List.mem_map.1 hx
  by_cases h : a[j]? = b[j]?
  · rw [if_pos h]; decide
  · rw [if_neg h]; decide
theorem xorB_turn {a b K : List UInt8} (ha : inR 48 49 a = true) (hb : inR 48 49 b = true) (hK : inR 48 49 K = true) (hab : a.length = b.length) (hl : K.length = a.length) :
    xorB b K a.length = a ↔ K = xorB a b a.length := by
  have key : ∀ i (h1 : i < a.length), (if b[i]? = K[i]? then (48 : UInt8) else 49) = a[i] ↔ K[i]'(by omega) = if a[i]? = b[i]? then 48 else 49 := by
    intro i h1
    rw [List.getElem?_eq_getElem h1, List.getElem?_eq_getElem (show i < b.length by omega), List.getElem?_eq_getElem (show i < K.length by omega)]
    simp only [Option.some.injEq]
    rcases inR_two ha i h1 with e | e <;> rcases inR_two hb i (by omega) with f | f <;> rcases inR_two hK i (by omega) with g | g <;> rw [e, f, g] <;> decide
  constructor
  · intro h
    refine List.ext_getElem (by rw [xorB_length, hl]) fun i h1 h2 => ?_
    have hi : i < a.length := by omega
    have e1 : (xorB b K a.length)[i]'(by rw [xorB_length]; exact hi) = a[i] := by simp only [h]
    simp only [xorB, List.getElem_map, List.getElem_range] at e1 ⊢
    exact (key i hi).1 e1
  · intro h
    refine List.ext_getElem (by rw [xorB_length]) fun i h1 h2 => ?_
    have e1 : K[i]'(by omega) = (xorB a b a.length)[i]'(by rw [xorB_length]; exact h2) := by simp only [← h]
    simp only [xorB, List.getElem_map, List.getElem_range] at e1 ⊢
    exact (key i h2).2 e1
/-- The key between two texts; the state behind it. -/
def fkK (a b : List UInt8) : List UInt8 := xorB a b a.length
def fkW (l : List Int) : Nat := (wid l).toNat
def fkM (l : List Int) (a b : List UInt8) : List Nat := (gb (fkK a b)).take (fkW l)
def fkS (l : List Int) (a b : List UInt8) : List Nat := bst l (fkM l a b) (fkW l)
def fkIn (l : List Int) (a b : List UInt8) : Bool := tpOk l && (xorOk a b && decide (wid l ≤ (a.length : Int)))
/-- The bits of the key behind the state that was found. -/
def fkG (l : List Int) (a b : List UInt8) : List UInt8 := tx (kb l (stQ (tx (fkS l a b))) a.length)
def fkOk (l : List Int) (a b : List UInt8) : Bool := fkIn l a b && decide (fkG l a b = fkK a b)
def fkV (l : List Int) (a b : List UInt8) : ByteArray := if fkOk l a b then ⟨(tx (fkS l a b)).toArray⟩ else ⟨#[]⟩
theorem fkIn_parts {l : List Int} {a b : List UInt8} (h : fkIn l a b = true) : tpOk l = true ∧ isB a = true ∧ isB b = true ∧ a.length = b.length ∧ wid l ≤ (a.length : Int) := by
  unfold fkIn xorOk at h
  simp only [Bool.and_eq_true, decide_eq_true_eq] at h
  exact ⟨h.1, h.2.1.1.1, h.2.1.1.2, h.2.1.2, h.2.2⟩
theorem fk_facts {l : List Int} {a b : List UInt8} (h : fkIn l a b = true) :
    (fkM l a b).length = fkW l ∧ bitsN (fkM l a b) ∧ (fkS l a b).length = fkW l ∧ bitsN (fkS l a b) ∧ scOk l (tx (fkS l a b)) = true ∧
      (fkK a b).length = a.length ∧ inR 48 49 (fkK a b) = true ∧ (fkW l : Int) = wid l ∧ 1 ≤ fkW l ∧ fkW l ≤ 16 ∧ fkW l ≤ a.length ∧ a.length ≤ 400 := by
  obtain ⟨h1, h2, h3, h4, h5⟩ := fkIn_parts h
  have hw := tpOk_wid h1
  have hn := (isB_r h2).1
  have hW : (fkW l : Int) = wid l := by unfold fkW; omega
  have hKl : (fkK a b).length = a.length := xorB_length _ _ _
  have hKr : inR 48 49 (fkK a b) = true := xorB_inR _ _ _
  have hM : bitsN (fkM l a b) := fun x hx => gb_bits hKr x (List.mem_of_mem_take hx)
  have hMl : (fkM l a b).length = fkW l := by unfold fkM; rw [List.length_take, gb_len, hKl]; omega
  have hS : bitsN (fkS l a b) := bst_bits hM _
  have hSl : (fkS l a b).length = fkW l := bst_len _ _ _
  refine ⟨hMl, hM, hSl, hS, ?_, hKl, hKr, hW, by omega, by omega, by omega, hn⟩
  unfold scOk isB
  rw [h1, tx_inR hS, tx_len, hSl, hW, decide_eq_true (show fkW l ≤ 400 by omega)]
  simp
/-- What the program's first KeyBits answers. -/
theorem fk_first {l : List Int} {a b : List UInt8} (h : fkIn l a b = true) :
    kyOk (trn l) ((fkK a b).take (fkW l)) (wid l) = true ∧ kyL (trn l) ((fkK a b).take (fkW l)) (wid l) = tx (fkS l a b) := by
  obtain ⟨h1, -⟩ := fkIn_parts h
  obtain ⟨m1, m2, m3, m4, m5, m6, m7, m8, m9, m10, m11, m12⟩ := fk_facts h
  have hr : inR 48 49 ((fkK a b).take (fkW l)) = true := by
    unfold inR
    rw [List.all_eq_true]
    intro x hx
    exact List.all_eq_true.1 m7 x (List.mem_of_mem_take hx)
  have hlen : ((fkK a b).take (fkW l)).length = fkW l := by rw [List.length_take, m6]; omega
  constructor
  · unfold kyOk scOk isB
    rw [(trn_ok h1).1, (trn_ok h1).2, hr, hlen, decide_eq_true (show fkW l ≤ 400 by omega), decide_eq_true m8, decide_eq_true (show (0 : Int) ≤ wid l ∧ wid l ≤ 400 by omega)]
    rfl
  · unfold kyL
    have e : gb ((fkK a b).take (fkW l)) = fkM l a b := by unfold gb fkM gb; rw [List.map_take]
    rw [stQ_gb, e, kb_turn h1 (by rw [m1]; omega)]
    rfl
/-- The model's test is the program's. -/
theorem fk_test {l : List Int} {a b : List UInt8} (h : fkIn l a b = true) : (adL l (tx (fkS l a b)) b = a) ↔ fkG l a b = fkK a b := by
  obtain ⟨h1, h2, h3, h4, h5⟩ := fkIn_parts h
  obtain ⟨m1, m2, m3, m4, m5, m6, m7, m8, m9, m10, m11, m12⟩ := fk_facts h
  have hQ : bitsN (stQ (tx (fkS l a b))) := stQ_bits (isB_r (scOk_parts m5).2.1).2
  have hkl := kb_len (l := l) hQ a.length
  have hkb := kb_bits (l := l) hQ a.length
  unfold adL fkG fkK
  rw [← h4, ← xorB_turn (isB_r h2).2 (isB_r h3).2 (tx_inR hkb) h4 (by rw [tx_len, hkl])]
  have := xor_key (g := b) (isB_r h3).2 hkb (by rw [hkl, h4])
  rw [← h4] at this
  rw [this]
end Go.Proofs.Ytddlpbpcdjddpaa

namespace Go.Proofs.Ytddlpbpcdjddpaa
set_option linter.unusedVariables false
open Go Go.RowKit

/-! The key in front of a part of it. -/
theorem kq_take {l : List Int} {q : List Nat} (hq : bitsN q) : ∀ (n k : Nat), k ≤ n → (kq l q n).take (q.length + k) = kq l q k
  | 0, k, h => by
    obtain rfl : k = 0 := by omega
    show q.take _ = q
    exact List.take_of_length_le (by omega)
  | n + 1, k, h => by
    have hl := (kq_ok (l := l) hq n).2
    by_cases e : k = n + 1
    · subst e
      exact List.take_of_length_le (by rw [(kq_ok hq _).2]; omega)
    · show (kq l q n ++ [sm l (kq l q n)]).take _ = _
      rw [List.take_append_of_le_length (by omega)]
      exact kq_take hq n k (by omega)
theorem kq_next {l : List Int} {q : List Nat} (hq : bitsN q) (n k : Nat) (h : k < n) : (kq l q n).getD (q.length + k) 0 = sm l (kq l q k) := by
  have h1 := kq_take (l := l) hq n (k + 1) (by omega)
  have hl := (kq_ok (l := l) hq k).2
  rw [List.getD, ← List.getElem?_take_of_lt (show q.length + k < q.length + (k + 1) by omega), h1]
  show ((kq l q k ++ [sm l (kq l q k)])[q.length + k]?).getD 0 = _
  rw [List.getElem?_append_right (by omega), hl, Nat.sub_self]; rfl
theorem dropLast_wid {l : List Int} (h : 0 < l.length) : l = l.dropLast ++ [wid l] := by
  have hne : l ≠ [] := by intro e; subst e; simp at h
  conv => lhs; rw [← List.dropLast_concat_getLast hne]
  rw [wid_at h, List.getLast_eq_getElem]
theorem bbF_smF {Z : List Nat} {w j : Nat} : ∀ (m : List Int) (a : Nat), (∀ t ∈ m, 1 ≤ t ∧ t < (w : Int)) → w + j ≤ Z.length → bbF m (Z.drop (j + 1)) w a = smF m (Z.take (w + j)) a
  | [], a, _, _ => rfl
  | t :: m, a, h, hZ => by
    have ht := h t (List.mem_cons_self ..)
    show bbF m _ w (a ^^^ (Z.drop (j + 1)).getD (w - 1 - t.toNat) 0) = smF m _ (a ^^^ bk (Z.take (w + j)) t)
    have e : (Z.drop (j + 1)).getD (w - 1 - t.toNat) 0 = bk (Z.take (w + j)) t := by
      unfold bk
      rw [List.length_take, show min (w + j) Z.length = w + j from by omega, List.getD, List.getD, List.getElem?_drop, List.getElem?_take_of_lt (by omega)]
      congr 2
      omega
    rw [e]
    exact bbF_smF m _ (fun x hx => h x (List.mem_cons_of_mem _ hx)) hZ
theorem xor_back (a b : Nat) : (a ^^^ b) ^^^ a = b := by rw [Nat.xor_comm a b, Nat.xor_assoc, Nat.xor_self, Nat.xor_zero]
theorem bb_key {l : List Int} {q : List Nat} (ht : tpOk l = true) (hq : bitsN q) (hw : (q.length : Int) = wid l) (j : Nat) (hj : j < q.length) : bb l ((kq l q q.length).drop (j + 1)) = (kq l q q.length).getD j 0 := by
  have h0 := (tpOk_parts ht).1
  have hl := (kq_ok (l := l) hq q.length).2
  have hW : (wid l).toNat = q.length := by omega
  have hn := kq_next (l := l) hq q.length j hj
  have htk := kq_take (l := l) hq q.length j (by omega)
  have hk := (kq_ok (l := l) hq j).2
  have h1 : ((kq l q q.length).drop (j + 1)).getD (q.length - 1) 0 = sm l (kq l q j) := by
    rw [List.getD, List.getElem?_drop, show j + 1 + (q.length - 1) = q.length + j from by omega, ← List.getD]; exact hn
  have h2 : sm l (kq l q j) = smF l.dropLast (kq l q j) 0 ^^^ (kq l q q.length).getD j 0 := by
    have e : sm l (kq l q j) = smF (l.dropLast ++ [wid l]) (kq l q j) 0 := by rw [← dropLast_wid h0]; rfl
    rw [e, smF_snoc]
    congr 1
    unfold bk
    rw [hk, hW, show q.length + j - q.length = j from by omega, List.getD, List.getD, ← htk, List.getElem?_take_of_lt (by omega)]
  unfold bb
  rw [hW, h1, bbF_smF _ _ (fun t hm => by have := drop_mem ht hm; omega) (by omega), htk, smF_acc, h2]
  exact xor_back _ _
theorem bq_key {l : List Int} {q : List Nat} (ht : tpOk l = true) (hq : bitsN q) (hw : (q.length : Int) = wid l) : ∀ k, k ≤ q.length → bq l ((kq l q q.length).drop q.length) k = (kq l q q.length).drop (q.length - k)
  | 0, _ => rfl
  | k + 1, h => by
    have hl := (kq_ok (l := l) hq q.length).2
    have ih := bq_key ht hq hw k (by omega)
    show bb l (bq l _ k) :: bq l _ k = _
    rw [ih]
    have hb := bb_key ht hq hw (q.length - (k + 1)) (by omega)
    rw [show q.length - (k + 1) + 1 = q.length - k from by omega] at hb
    rw [hb, List.drop_eq_getElem_cons (show q.length - (k + 1) < (kq l q q.length).length by omega), show q.length - (k + 1) + 1 = q.length - k from by omega, List.getD, List.getElem?_eq_getElem (by omega)]
    rfl
/-- The state is found from the first bits of its key. -/
theorem bst_key {l : List Int} {q : List Nat} (ht : tpOk l = true) (hq : bitsN q) (hw : (q.length : Int) = wid l) : bst l (kb l q q.length) q.length = q.reverse := by
  have h1 := bq_key ht hq hw q.length (Nat.le_refl _)
  have h2 := kq_take (l := l) hq q.length 0 (by omega)
  rw [Nat.sub_self, List.drop_zero] at h1
  rw [Nat.add_zero] at h2
  unfold bst kb
  rw [h1, h2]; rfl
theorem kb_take {l : List Int} {q : List Nat} (hq : bitsN q) (n k : Nat) (h : k ≤ n) : (kb l q n).take k = kb l q k := by
  unfold kb
  rw [List.take_drop, kq_take (l := l) hq n k h]
/-! Periods. -/
theorem sm_wn {l : List Int} {q : List Nat} (ht : tpOk l = true) (hq : bitsN q) (hw : (q.length : Int) = wid l) (k : Nat) : sm l (kq l q k) = sm l (wn l q k) := by
  rw [← kq_wn ht hq hw k]
  refine (smF_drop l 0 fun t hm => ?_).symm
  obtain ⟨i, hi, rfl⟩ := List.getElem_of_mem hm
  have := tpOk_le ht i hi
  rw [(kq_ok (l := l) hq k).2]
  exact ⟨this.1, by omega⟩
/-- A bit of the key. -/
def kbit (l : List Int) (q : List Nat) (i : Nat) : Nat := sm l (wn l q i)
theorem kb_get {l : List Int} {q : List Nat} (ht : tpOk l = true) (hq : bitsN q) (hw : (q.length : Int) = wid l) (n i : Nat) (h : i < n) : (kb l q n).getD i 0 = kbit l q i := by
  unfold kb kbit
  rw [List.getD, List.getElem?_drop, ← List.getD, kq_next hq n i h, sm_wn ht hq hw]
theorem wn_on {l : List Int} {q : List Nat} {P : Nat} (h : wn l q P = q) : ∀ k, wn l q (P + k) = wn l q k
  | 0 => h
  | k + 1 => by
    show nx l (wn l q (P + k)) = nx l (wn l q k)
    rw [wn_on h k]
theorem kbit_on {l : List Int} {q : List Nat} {P : Nat} (h : wn l q P = q) (k : Nat) : kbit l q (k + P) = kbit l q k := by
  unfold kbit
  rw [Nat.add_comm, wn_on h]
theorem wn_window {l : List Int} {q : List Nat} (ht : tpOk l = true) (hq : bitsN q) (hw : (q.length : Int) = wid l) (k i : Nat) (hi : i < q.length) : (wn l q (q.length + k)).getD i 0 = kbit l q (k + i) := by
  rw [← kq_wn ht hq hw, List.getD, List.getElem?_drop, show q.length + k + i = q.length + (k + i) from by omega, ← List.getD, kq_next hq _ _ (by omega), sm_wn ht hq hw]; rfl
theorem wn_same {l : List Int} {q : List Nat} (ht : tpOk l = true) (hq : bitsN q) (hw : (q.length : Int) = wid l) (d : Nat) (h : ∀ i, i < q.length → kbit l q i = kbit l q (i + d)) : wn l q d = q := by
  have h0 : 0 < q.length := by have := (tpOk_wid ht).1; omega
  have e : wn l q q.length = wn l q (q.length + d) := by
    have l1 := (wn_ok (l := l) hq h0 q.length).2
    have l2 := (wn_ok (l := l) hq h0 (q.length + d)).2
    apply List.ext_getElem
    · omega
    · intro i h1 h2
      have a := wn_window ht hq hw 0 i (by omega)
      have b := wn_window ht hq hw d i (by omega)
      rw [Nat.add_zero] at a
      rw [Nat.zero_add] at a
      rw [show d + i = i + d from by omega, ← h i (by omega), ← a, List.getD, List.getD, List.getElem?_eq_getElem h2, List.getElem?_eq_getElem h1] at b
      exact b.symm
  exact (wn_back ht hq hw _ _ e).symm
theorem smF_zeros {q : List Nat} (h : ∀ x ∈ q, x = 0) : ∀ (l : List Int), smF l q 0 = 0
  | [] => rfl
  | t :: l => by
    have e : bk q t = 0 := by
      unfold bk
      rw [List.getD]
      cases e : q[q.length - t.toNat]? with
      | none => rfl
      | some x => exact h x (List.mem_of_getElem? e)
    show smF l q (0 ^^^ bk q t) = 0
    rw [e]; exact smF_zeros h l
theorem nb_zero : ∀ (u : List Nat), nb u = 0 → ∀ x ∈ u, x = 0
  | [], _ => by intro x hx; cases hx
  | a :: u, h => by
    rw [nb_cons] at h
    have ha : a * 2 ^ u.length = 0 := by omega
    have hp := Nat.pow_pos (n := u.length) (show 0 < 2 by omega)
    have h1 : a = 0 := by
      rcases Nat.mul_eq_zero.1 ha with h | h
      · exact h
      · omega
    intro x hx
    rcases List.mem_cons.1 hx with rfl | hx
    · exact h1
    · exact nb_zero u (by omega) x hx
theorem nx_zeros {l : List Int} {u : List Nat} (h : ∀ x ∈ u, x = 0) (h0 : 0 < u.length) : nx l u = u := by
  have e : u = List.replicate u.length 0 := List.eq_replicate_iff.2 ⟨rfl, h⟩
  unfold nx sm
  rw [smF_zeros h]
  rw [e]
  obtain ⟨n, hn⟩ : ∃ n, u.length = n + 1 := ⟨u.length - 1, by omega⟩
  rw [hn, List.drop_replicate, Nat.add_sub_cancel]
  exact (List.replicate_succ' ..).symm
theorem kpN_le {l : List Int} {u : List Nat} (ht : tpOk l = true) (hu : bitsN u) (lu : (u.length : Int) = wid l) (h7 : wid l ≤ 7) : kpN l u ≤ 127 := by
  obtain ⟨p1, -, -, pm⟩ := kpN_ok ht hu lu
  have h0 : 0 < u.length := by have := (tpOk_wid ht).1; omega
  by_cases hz : ∃ i, nb (wn l u i) = 0
  · obtain ⟨i, hi⟩ := hz
    have e : wn l u i = wn l u (i + 1) := (nx_zeros (nb_zero _ hi) (by rw [(wn_ok hu h0 i).2]; exact h0)).symm
    have := (wn_back ht hu lu i 1 e).symm
    by_cases hk : 1 < kpN l u
    · exact absurd this (pm 1 (Nat.le_refl _) hk)
    · omega
  · have hlt : ∀ i, nb (wn l u i) < 128 := fun i => by
      have h1 := nb_lt _ (wn_ok (l := l) hu h0 i).1
      rw [(wn_ok hu h0 i).2] at h1
      have h2 : 2 ^ u.length ≤ 2 ^ 7 := Nat.pow_le_pow_right (by omega) (by omega)
      omega
    obtain ⟨i, j, hij, hj, e⟩ := php 127 (fun i => nb (wn l u i) - 1) (fun i _ => by
      have := hlt i
      have : nb (wn l u i) ≠ 0 := fun h => hz ⟨i, h⟩
      show nb (wn l u i) - 1 < 127
      omega)
    have e' : nb (wn l u i) = nb (wn l u j) := by
      have a : nb (wn l u i) ≠ 0 := fun h => hz ⟨i, h⟩
      have b : nb (wn l u j) ≠ 0 := fun h => hz ⟨j, h⟩
      have e : nb (wn l u i) - 1 = nb (wn l u j) - 1 := e
      omega
    have e2 : wn l u i = wn l u (i + (j - i)) := by
      rw [show i + (j - i) = j from by omega]
      exact nb_inj _ _ (wn_ok hu h0 i).1 (wn_ok hu h0 j).1 (by rw [(wn_ok hu h0 i).2, (wn_ok hu h0 j).2]) e'
    have := (wn_back ht hu lu i (j - i) e2).symm
    by_cases hk : j - i < kpN l u
    · exact absurd this (pm (j - i) (by omega) hk)
    · omega
/-! What is descrambled is scrambled back. -/
theorem sc_back (l : List Int) (q bs : List Nat) : (scF true l q bs).1 = q ++ bs ∧ scF false l q (scF true l q bs).2 = (q ++ bs, bs) := by
  refine snoc_ind (P := fun bs => (scF true l q bs).1 = q ++ bs ∧ scF false l q (scF true l q bs).2 = (q ++ bs, bs)) ?_ ?_ bs
  · exact ⟨(List.append_nil q).symm, by simp [scF]⟩
  · intro bs b ⟨h1, h2⟩
    rw [scF_snoc]
    unfold scG
    refine ⟨by simp [h1], ?_⟩
    simp only [h1]
    rw [scF_snoc, h2]
    unfold scG
    have e : b ^^^ sm l (q ++ bs) ^^^ sm l (q ++ bs) = b := by rw [Nat.xor_assoc, Nat.xor_self, Nat.xor_zero]
    simp [e]
end Go.Proofs.Ytddlpbpcdjddpaa

namespace Go.Proofs.Ytddlpbpcdjddpaa
open Go Go.RowKit
set_option linter.unusedVariables false

/-- Two rows of a call's own are apart. -/
def Apart (v u : Value) : Prop := ∀ k, v.ownBlock = some k → u.ownBlock = some k → False
theorem own_nil (w : World) (base : Nat) : Own w base (.slice none 0 0) [] := World.ownsRow_nil _ _ _ _
theorem apart_nil : Apart (.slice none 0 0) (.slice none 0 0) := fun k h _ => by simp [Value.ownBlock] at h
theorem c1_b (wr : World) (x : Value) (t : TypeId) : ∀ (j : Nat) (u : Value), [x][j]? = some u → (wr.alloc (.cells #[x] t)).cell? ((⟨wr.heap.size, 0, none⟩ : Addr).add j) = some u := by
  intro j u hj
  match j, hj with
  | 0, hj =>
    simp at hj; subst hj
    rw [show ((⟨wr.heap.size, 0, none⟩ : Addr).add 0) = ⟨wr.heap.size, 0, none⟩ from by simp [Addr.add]]
    rw [World.cell?_alloc_at _ _ _ _ rfl]; rfl
theorem app_other {wr w1 : World} {base : Nat} {u v : Value} {lu : List Int} {o : Obj} (hu : Own wr base u lu) (ha : Apart u v) (hg : (wr.alloc o).grownBy w1 v.ownBlock) : Own w1 base u lu := by
  refine World.ownsRow.kept (World.ownsRow.alloc hu o) hg ?_
  cases hb : u.ownBlock with
  | none => exact .inl rfl
  | some k => exact .inr fun e => ha k hb e.symm
theorem app_apart {wr : World} {base H g n cap : Nat} {u v : Value} {lu : List Int} (hu : Own wr base u lu) (ha : Apart u v) (hat : v.ownBlock = some g ∨ g = H) (hH : wr.heap.size ≤ H) : Apart u (.slice (some ⟨g, 0, none⟩) n cap) := by
  intro k h1 h2
  simp [Value.ownBlock] at h2
  subst h2
  rcases hat with h | h
  · exact ha g h1 h
  · have := (World.ownsRow.lt hu g h1).2
    omega
theorem Apart.symm {u v : Value} (h : Apart u v) : Apart v u := fun k h1 h2 => h k h2 h1
theorem below_appN {B n : Nat} {w wr w1 : World} {e : TypeId} {v : Value} {xs : List Value} {o : Obj} (hb : Below B w wr) (hB : B ≤ wr.heap.size) (hown : wr.ownsRow B e 1 v n xs) (hg : (wr.alloc o).grownBy w1 v.ownBlock) : Below B w w1 :=
  (hb.alloc hB o).grown hg (by simp; omega) (fun k hk => (hown.lt k hk).1)
theorem own_snocI {w : World} {base : Nat} {v : Value} {l : List Int} {x : Int} (h : w.ownsRow base 2 1 v (l.length + 1) (intVals l ++ [.int .i64 x])) : Own w base v (l ++ [x]) := by
  unfold Own; rw [List.length_append, ← intVals_snoc]; exact h
end Go.Proofs.Ytddlpbpcdjddpaa

namespace Go.Proofs.Ytddlpbpcdjddpaa
open Go Go.RowKit
set_option linter.unusedVariables false
theorem apN_other {wr w1 : World} {base : Nat} {u v : Value} {q : List Nat} {o : Obj} (hu : OwnN wr base u q) (ha : Apart u v) (hg : (wr.alloc o).grownBy w1 v.ownBlock) : OwnN w1 base u q := by
  refine World.ownsRow.kept (World.ownsRow.alloc hu o) hg ?_
  cases hb : u.ownBlock with
  | none => exact .inl rfl
  | some k => exact .inr fun e => ha k hb e.symm
theorem apN_apart {wr : World} {base H g n cap : Nat} {u v : Value} {q : List Nat} (hu : OwnN wr base u q) (ha : Apart u v) (hat : v.ownBlock = some g ∨ g = H) (hH : wr.heap.size ≤ H) : Apart u (.slice (some ⟨g, 0, none⟩) n cap) := by
  intro k h1 h2
  simp [Value.ownBlock] at h2
  subst h2
  rcases hat with h | h
  · exact ha g h1 h
  · have := (World.ownsRow.lt hu g h1).2
    omega
set_option maxRecDepth 100000 in
set_option maxHeartbeats 2000000 in
theorem l06Descramble_any (w : World) (b0 : Nat) (v : Value) (l : List Int) (s g : ByteArray) (hok : scOk l s.data.toList = true) (hok2 : isB g.data.toList = true) (hbk : Bk w b0 (scV v s)) (h : Rd w v l) :
    Calls Try.prog 40 #[.pointer (some ⟨b0, 0, none⟩), .string g] w fun e w' => e = .returned (.string ⟨(scbL true l s.data.toList g.data.toList).toArray⟩) ∧ Below w.heap.size w w' := by
  obtain ⟨i0, hi, hz0, hz1, hz2⟩ := info_parts Try.infoByte
  have HBK := Lib.hid hbk
  have HRD := Lib.hid h
  obtain ⟨A1, c1, rfl⟩ := rd_shp h
  obtain ⟨n1, hn1⟩ : ∃ n1, n1 = l.length := ⟨_, rfl⟩
  rw [← hn1] at HBK HRD
  clear h hbk hn1
  obtain ⟨hp1, hp2, hp3⟩ := scOk_parts hok
  obtain ⟨hp4, hp5⟩ := isB_r hp2
  have hwid : wid l ≤ ((stQ s.data.toList).length : Int) := by rw [stQ_len]; omega
  have hQ := stQ_bits hp5
  have hsz : (stQ s.data.toList).length = s.size := by rw [stQ_len]; simp
  have hpw := tpOk_wid hp1
  have hs16 : s.size ≤ 16 := by
    have : (s.data.toList.length : Int) = s.size := by simp
    omega
  obtain ⟨hp6, hp7⟩ := isB_r hok2
  have hgs : g.size ≤ 400 := by simpa using hp6
  have HBF := Lib.hid (fun W => l06Before_any W s (by omega) hp5)
  have HIN := Lib.hid (fun k hk => inR_at 48 49 g k hk hp7)
  have HOK := Lib.hid (fun k => scF_ok true l (stQ s.data.toList) hQ (gb (g.data.toList.take k)) (gb_bits (inR_take 48 49 g k hp7)))
  have HST := Lib.hid (fun k hk => scF_take true l (stQ s.data.toList) g k hk)
  have HALL := Lib.hid (fun k hk => take_all g k hk)
  have HSU := Lib.hid (fun W v u (q : List Nat) hq hw h h2 => l06Sum_any W v u l q hp1 hq hw h h2)
  have HSL := Lib.hid (fun (q : List Nat) (hq : bitsN q) => sm_le hq l)
  have HWI := Lib.hid hwid
  have HTX := Lib.hid (fun W v (M : List Nat) hM hl h => l06Text_any W v M hM hl h)
  have HL : Hid (scbL true l s.data.toList g.data.toList = tx (scF true l (stQ s.data.toList) (gb g.data.toList)).2) := rfl
  have HSZ := Lib.hid hsz
  generalize scbL true l s.data.toList g.data.toList = LL at *
  clear hok hok2 hp1 hp2 hp3 hp4 hp5 hp6 hp7 hwid hQ hpw hsz
  generalize stQ s.data.toList = Q at *
  go_enter Try.func40, Try.ntmps40
  obtain ⟨q0, q1⟩ := sc_all HBK.out
  go_wp2_with fail
  refine (HBF.out _).mono ?_; rintro e w3 ⟨v3, rfl, ho3, hb3⟩
  clear q0 q1
  have HO3 := Lib.hid ho3
  have HB3 := Lib.hid hb3
  have HLU : Hid (b0 < w.heap.size) := HBK.out.2.2
  clear ho3 hb3
  go_wp2_with fail
  have HAP0 : Hid (Apart v3 (.slice (some ⟨w3.heap.size, 0, none⟩) 0 0)) := by
    show Apart _ _
    intro k h1 h2
    have := (World.ownsRow.lt HO3.out k h1).2
    simp [Value.ownBlock] at h2
    omega
  have ho30 : OwnN (w3.alloc (.cells #[] 5)) w.heap.size v3 Q := World.ownsRow.alloc HO3.out _
  have hou : OwnN (w3.alloc (.cells #[] 5)) w.heap.size (.slice (some ⟨w3.heap.size, 0, none⟩) 0 0) [] := own_low (World.ownsRow_made w3 #[] 0 (Nat.le_refl _) (by decide) rfl : OwnN _ _ _ []) HB3.out.size
  have hbo : Below w.heap.size w (w3.alloc (.cells #[] 5)) := HB3.out.alloc HB3.out.size _
  have HOI := Lib.hid (And.intro ho30 (And.intro hou hbo))
  clear ho30 hou hbo
  go_loopw [5, 6, 7] (fun u t i wr => ∃ (k : Nat) (q M : List Nat), k ≤ g.size ∧ i = .int .i64 k ∧ scF true l Q (gb (g.data.toList.take k)) = (q, M) ∧ OwnN wr w.heap.size u q ∧ OwnN wr w.heap.size t M ∧ Apart u t ∧ Below w.heap.size w wr) (fun _ _ i _ => g.size - (intOf i).toNat)
  case atStart => exact ⟨0, Q, [], Nat.zero_le _, rfl, rfl, HOI.out.1, HOI.out.2.1, HAP0.out, HOI.out.2.2⟩
  case round =>
    obtain ⟨k, q, M, hk, rfl, hst, hown, hout, hap, hbw⟩ := hrel
    have hok := HOK.out k
    rw [hst] at hok
    obtain ⟨o1, o2, o3, o4⟩ := hok
    simp only at o1 o2 o3 o4
    rw [gb_len] at o3 o4
    have HM := Lib.hid hst
    have hlen : q.length ≤ 416 := by rw [o3, List.length_take, HSZ.out]; simp; omega
    have hlenM : M.length ≤ 416 := by rw [o4, List.length_take]; omega
    have HO1 := Lib.hid o1
    have HO2 := Lib.hid o2
    have HO3L := Lib.hid o3
    have HO4L := Lib.hid o4
    have HWL : Hid (wid l ≤ (q.length : Int)) := by show _ ≤ _; have := HWI.out; omega
    have hz := HSL.out q o1
    clear hst o1 o2 o3 o4 HOI
    by_cases hlt : k < g.size
    · have hST := HST.out k hlt
      rw [HM.out] at hST
      have hIN := HIN.out k hlt
      have hk0 : (0 : Int) ≤ (k : Int) := by omega
      have hk1 : (k : Int) < (g.size : Int) := by omega
      obtain ⟨y, hy⟩ : ∃ y, g[k].toNat = y := ⟨_, rfl⟩
      rw [hy] at hST hIN
      obtain ⟨x, rfl⟩ : ∃ x, y = x + 48 := ⟨y - 48, by omega⟩
      have hx : x ≤ 1 := by omega
      rw [show x + 48 - 48 = x from by omega] at hST
      have HT := Lib.hid hST
      have hcv : (((x + 48 : Nat) : Int) - 48) % 256 = (x : Int) := by omega
      obtain ⟨z, hz2⟩ : ∃ z, sm l q = z := ⟨_, rfl⟩
      have HZ := Lib.hid hz2
      rw [hz2] at hz
      have hxo := u8_xor hx hz
      obtain ⟨m, hm⟩ : ∃ m, x ^^^ z = m := ⟨_, rfl⟩
      have HMM := Lib.hid hm
      rw [hm] at hxo
      have hwx : IntKind.u8.wrap (x : Int) = (x : Int) := by simp [IntKind.wrap, IntKind.signed, IntKind.bits]; omega
      have hbd : Below w.heap.size w wr.drew := hbw.drew
      have hkd := HBK.out.keep hbd
      have hrd := HRD.out.keep hbd
      obtain ⟨q0, q1⟩ := sc_all hkd
      have HC := Lib.hid (HSU.out wr.drew _ _ q HO1.out HWL.out hrd (OwnN.rdn (w := wr.drew) hown))
      rw [HZ.out] at HC
      have HBD := Lib.hid hbd
      have HOD : Hid (OwnN wr.drew w.heap.size u5 q) := hown
      have HUD : Hid (OwnN wr.drew w.heap.size u6 M) := hout
      have HAP := Lib.hid hap
      clear hkd hrd hbd hbw hST hIN hz2 hm hown hout hap
      go_wp2_with fail
      go_region_law ((first
        | (go_simp; go_at_call 51; refine (HC.out).mono ?_; rintro e w' ⟨rfl, rfl⟩)
        | (refine step_append_lies _ rfl _ _ 41 (by rfl) w.heap.size 5 i0 (.int .u8 0) 1 1 Try.underlying41 hi hz0 hz1 hz2 rfl (by decide) _ M.length _ (by rfl) (World.ownsRow.alloc HUD.out _) ⟨wr.heap.size, 0, none⟩ 1 1 [.int .u8 (m : Int)] (by rfl) rfl (by exact c1_one _ _ _) (by intro u hu; simp at hu; subst hu; rfl) (by decide) (by unfold maxLen; omega) (by omega) (by have := HBD.out.size; simp at this ⊢; omega) (wr.heap.size + 1) (by simp) ?_; intro g9 cap w9 hown9 hgrow hat hlt9)))
      all_goals
        have HB9 := Lib.hid (below_app (w1 := w9) HBD.out HBD.out.size HUD.out hgrow)
        have HM9 : Hid (OwnN w9 w.heap.size (.slice (some ⟨g9, 0, none⟩) (M.length + 1) cap) (M ++ [m])) := ownN_snoc hown9
        have HQ9 : Hid (OwnN w9 w.heap.size u5 q) := apN_other HOD.out HAP.out hgrow
        have HA9 : Hid (Apart u5 (.slice (some ⟨g9, 0, none⟩) (M.length + 1) cap)) := apN_apart (wr := wr.drew) HOD.out HAP.out hat (by simp)
        clear hown9 hgrow hat hlt9 hxo q0 q1
        go_wp2_with (at_builtin; refine wpList_append_lies _ rfl _ _ 41 rfl w.heap.size 5 i0 (.int .u8 0) 1 1 Try.underlying41 hi hz0 hz1 hz2 rfl (by decide) _ _ _ rfl (World.ownsRow.alloc HQ9.out _) ⟨w9.heap.size, 0, none⟩ 1 1 [.int .u8 (x : Int)] rfl rfl ?c1 ?c2 (by decide) ?c3 ?c4 ?c5 (w9.heap.size + 1) (by simp) ?_)
        case c1 => exact c1_one _ _ _
        case c2 => intro u hu; simp at hu; subst hu; rfl
        case c3 => unfold maxLen; omega
        case c4 => omega
        case c5 => have := HB9.out.size; simp; omega
        intro g8 cap8 w8 hown8 hgrow8 hat8 hlt8
        have HB8 := Lib.hid (below_app (w1 := w8) HB9.out HB9.out.size HQ9.out hgrow8)
        have HQ8 : Hid (OwnN w8 w.heap.size (.slice (some ⟨g8, 0, none⟩) (q.length + 1) cap8) (q ++ [x])) := ownN_snoc hown8
        have HM8 : Hid (OwnN w8 w.heap.size (.slice (some ⟨g9, 0, none⟩) (M.length + 1) cap) (M ++ [m])) := apN_other HM9.out HA9.out.symm hgrow8
        have HA8 : Hid (Apart (.slice (some ⟨g8, 0, none⟩) (q.length + 1) cap8) (.slice (some ⟨g9, 0, none⟩) (M.length + 1) cap)) := (apN_apart HM9.out HA9.out.symm hat8 (by simp)).symm
        clear hown8 hgrow8 hat8 hlt8 hcv hwx
        go_wp2_with fail
        go_roundw
        case rel =>
          refine ⟨k + 1, q ++ [x], M ++ [m], by omega, by go_num, ?_, HQ8.out, HM8.out, HA8.out, HB8.out⟩
          rw [HT.out]
          unfold scG
          simp only [HZ.out, HMM.out]
          rfl
        case measure => simp [intOf]; omega
    · have hst := HM.out
      rw [HALL.out k hlt] at hst
      have hll := HL.out
      rw [hst] at hll
      simp only at hll
      have HLL := Lib.hid hll
      have HUD := Lib.hid hout.rdn
      have HBW := Lib.hid hbw
      clear hst hll hown hout hap hbw
      go_wp2_with fail
      refine (HTX.out _ _ M HO2.out (by omega) HUD.out).mono ?_; rintro e w9 ⟨rfl, hb9⟩
      have B9 := Lib.hid (HBW.out.trans (hb9.mono HBW.out.size))
      clear hb9
      go_wp2_with fail
      go_ret
      exact ⟨by rw [HLL.out]; rfl, B9.out⟩
end Go.Proofs.Ytddlpbpcdjddpaa

namespace Go.Proofs.Ytddlpbpcdjddpaa
open Go Go.RowKit
set_option linter.unusedVariables false
end Go.Proofs.Ytddlpbpcdjddpaa

namespace Go.Proofs.Ytddlpbpcdjddpaa
open Go Go.RowKit
set_option linter.unusedVariables false
def zsT (c : Nat) : List UInt8 := List.replicate c 48
theorem zsT_tx (c : Nat) : tx (List.replicate c 0) = zsT c := by simp [tx, zsT]
theorem zsT_bits (c : Nat) : inR 48 49 (zsT c) = true := by simp [inR, zsT]
theorem zsT_isB {c : Nat} (h : c ≤ 400) : isB (zsT c) = true := by
  unfold isB
  rw [zsT_bits, decide_eq_true (by simpa [zsT] using h)]; rfl
def wbOk (l : List Int) (s : List UInt8) (c : Int) : Bool := scOk l s && decide (0 ≤ c ∧ c ≤ 400)
def wbV (l : List Int) (s : List UInt8) (c : Int) : ByteArray := if wbOk l s c then ⟨(scbL true l s (zsT c.toNat)).toArray⟩ else ⟨#[]⟩
theorem wbV_no {l : List Int} {s : List UInt8} {c : Int} (h : wbOk l s c = false) : wbV l s c = ⟨#[]⟩ := by unfold wbV; rw [h]; rfl
theorem wbV_yes {l : List Int} {s : List UInt8} {c : Int} (h : wbOk l s c = true) : wbV l s c = ⟨(scbL true l s (zsT c.toNat)).toArray⟩ := by unfold wbV; rw [h]; rfl
theorem zsN_bits (c : Nat) : bitsN (List.replicate c 0) := fun x hx => by rw [List.mem_replicate] at hx; omega

set_option maxRecDepth 100000 in
set_option maxHeartbeats 1000000 in
theorem worst_impl (w : World) (v : Value) (l : List Int) (s : ByteArray) (c : Int) (hb : ∀ n ∈ l, -9223372036854775808 ≤ n ∧ n ≤ 9223372036854775807) (hs : s.size ≤ maxLen) (h : Rd w v l) :
    Calls Try.prog 18 #[.agg #[v, .string s], .int .i64 c] w fun e w' =>
      e = .returned (.tuple #[.string (wbV l s.data.toList c), .bool (wbOk l s.data.toList c)]) ∧ Below w.heap.size w w' := by
  have hB : Below w.heap.size w (w.alloc (.cells #[v, .string s] 28)) := (Below.refl _ _).alloc (Nat.le_refl _) _
  have HBK : Hid (Bk (w.alloc (.cells #[v, .string s] 28)) w.heap.size (scV v s)) := Bk.new w (scV v s) 28 _ rfl
  have HB := Lib.hid hB
  have HRD := Lib.hid (h.keep hB)
  by_cases hc : 0 ≤ c ∧ c ≤ 400
  · obtain ⟨n, rfl⟩ : ∃ n : Nat, c = (n : Int) := ⟨c.toNat, by omega⟩
    obtain ⟨hc1, hc2⟩ := hc
    have hn : n ≤ 400 := by omega
    have HSD := Lib.hid (fun W h => selfDescramble_impl W v l s ⟨(zsT n).toArray⟩ hb hs (by show (zsT n).toArray.size ≤ _; unfold maxLen; simp [zsT]; omega) h)
    have hval : scbV true l s.data.toList (zsT n) = wbV l s.data.toList n := by
      unfold scbV wbV wbOk scbOk
      rw [zsT_isB hn, decide_eq_true ⟨hc1, hc2⟩, Bool.and_true, Int.toNat_natCast]
    have hok : scbOk l s.data.toList (zsT n) = wbOk l s.data.toList n := by
      unfold wbOk scbOk
      rw [zsT_isB hn, decide_eq_true ⟨hc1, hc2⟩]
    rw [show (⟨(zsT n).toArray⟩ : ByteArray).data.toList = zsT n from rfl, hval, hok] at HSD
    have HRep : Hid (∀ (W : World), Calls Try.prog 48 #[.string ⟨#[48]⟩, .int .i64 (n : Int)] W fun e w' => e = .returned (.string ⟨(zsT n).toArray⟩) ∧ Below W.heap.size W w') := by
      show ∀ (W : World), _
      intro W
      have h := Try.strings_Repeat ⟨#[48]⟩ n W (by omega) (by show 1 * n ≤ _; omega)
      rw [show (#[48] : Array UInt8).toList = List.replicate 1 48 from rfl, Lib.repeatL_replicate, Nat.mul_one] at h
      exact h
    generalize (⟨(zsT n).toArray⟩ : ByteArray) = Z at *
    generalize wbV l s.data.toList n = V at *
    generalize wbOk l s.data.toList n = O at *
    obtain ⟨A1, c1, rfl⟩ := rd_shp h
    obtain ⟨n1, hn1⟩ : ∃ n1, n1 = l.length := ⟨_, rfl⟩
    rw [← hn1] at HBK HB HRD HSD ⊢
    clear h hB hb hs hn1 hval hok
    go_enter Try.func18, Try.ntmps18
    go_wp2_with fail
    refine (btw_yes _ _ _ _ hc1 hc2).mono ?_; rintro e w' ⟨rfl, rfl⟩
    go_wp2_with fail
    have t0 := HBK.out.drew
    have H0 := Lib.hid (HRD.out.keep (Below.refl _ _).drew)
    have B0 := Lib.hid HB.out.drew
    obtain ⟨q0, q1⟩ := sc_all t0
    go_region_held3 (fun w' => w'.cell? ⟨w.heap.size, 0, none⟩ = some (.slice A1 n1 c1) ∧ w'.cell? ⟨w.heap.size, 1, none⟩ = some (.string s)) ((first | with_reducible exact sc_all t2 | with_reducible exact sc_all t1 | with_reducible exact sc_all t0 | fail))
      (first
        | (go_at_call 48; refine (HRep.out _).mono ?_; rintro e u1 ⟨rfl, hb1⟩; have t1 := t0.keep hb1; have H1 := Lib.hid (H0.out.keep hb1); have B1 := Lib.hid (B0.out.trans (hb1.mono B0.out.size)); obtain ⟨q0, q1⟩ := sc_all t1; clear hb1)
        | (go_at_call 31; refine (HSD.out _ H1.out).mono ?_; rintro e u2 ⟨rfl, hb2⟩; have t2 := t1.keep hb2; have B2 := Lib.hid (B1.out.trans (hb2.mono B1.out.size)); obtain ⟨q0, q1⟩ := sc_all t2; clear hb2)
        | fail)
    all_goals go_wp2_with fail
    all_goals go_ret2
    all_goals exact ⟨rfl, B2.out⟩
  · have e0 : wbOk l s.data.toList c = false := by unfold wbOk; rw [decide_eq_false hc, Bool.and_false]
    rw [wbV_no e0, e0]
    have HC := Lib.hid hc
    obtain ⟨A1, c1, rfl⟩ := rd_shp h
    generalize l.length = n1 at *
    clear h hb hs hB e0 hc HRD HBK
    go_enter Try.func18, Try.ntmps18
    go_wp2_with fail
    refine (btw_no _ _ _ _ HC.out).mono ?_; rintro e w' ⟨rfl, rfl⟩
    go_wp2_with fail
    go_ret2
    exact ⟨rfl, HB.out⟩

set_option maxRecDepth 100000 in
set_option maxHeartbeats 1000000 in
theorem worst_spec (w : World) (v : Value) (l : List Int) (s : ByteArray) (c : Int) (hb : ∀ n ∈ l, -9223372036854775808 ≤ n ∧ n ≤ 9223372036854775807) (hs : s.size ≤ maxLen) (h : Rd w v l) :
    Calls Try.prog 17 #[.agg #[v, .string s], .int .i64 c] w fun e w' =>
      e = .returned (.tuple #[.string (wbV l s.data.toList c), .bool (wbOk l s.data.toList c)]) ∧ Below w.heap.size w w' := by
  obtain ⟨i0, hi, hz0, hz1, hz2⟩ := info_parts Try.infoByte
  have hB : Below w.heap.size w (w.alloc (.cells #[v, .string s] 28)) := (Below.refl _ _).alloc (Nat.le_refl _) _
  have hbk : Bk (w.alloc (.cells #[v, .string s] 28)) w.heap.size (scV v s) := Bk.new w (scV v s) 28 _ rfl
  have HI := Lib.hid (l06Is_any _ w.heap.size v s l hb hs hbk (h.keep hB))
  have HB := Lib.hid hB
  have HBK := Lib.hid hbk
  have HRD := Lib.hid (h.keep hB)
  have HDE := Lib.hid (fun W g h1 h2 h3 h4 => l06Descramble_any W w.heap.size v l s g h1 h2 h3 h4)
  have hE : wbOk l s.data.toList c = (scOk l s.data.toList && decide (0 ≤ c ∧ c ≤ 400)) := rfl
  obtain ⟨A1, c1, rfl⟩ := rd_shp h
  obtain ⟨n1, hn1⟩ : ∃ n1, n1 = l.length := ⟨_, rfl⟩
  rw [← hn1] at HBK HB HRD HI HDE ⊢
  clear h hB hbk hn1 hb hs
  cases hok : scOk l s.data.toList
  · rw [hok, Bool.false_and] at hE
    rw [wbV_no hE, hE]
    rw [hok] at HI
    clear hE hok HDE
    go_enter Try.func17, Try.ntmps17
    go_wp2_with fail
    refine HI.out.mono ?_; rintro e w1 ⟨rfl, q, rfl⟩
    go_wp2_with fail
    go_ret2
    exact ⟨rfl, below_drewN HB.out q⟩
  · rw [hok, Bool.true_and] at hE
    rw [hok] at HI
    by_cases hc : 0 ≤ c ∧ c ≤ 400
    · rw [decide_eq_true hc] at hE
      rw [wbV_yes hE, hE]
      obtain ⟨n, rfl⟩ : ∃ n : Nat, c = (n : Int) := ⟨c.toNat, by omega⟩
      obtain ⟨hc1, hc2⟩ := hc
      have hn : n ≤ 400 := by omega
      have HD2 := Lib.hid (fun W h3 h4 => HDE.out W ⟨(zsT n).toArray⟩ hok (zsT_isB hn) h3 h4)
      have HTX := Lib.hid (fun W v h => l06Text_any W v (List.replicate n 0) (zsN_bits n) (by simp; omega) h)
      rw [zsT_tx] at HTX
      rw [Int.toNat_natCast]
      generalize (⟨(scbL true l s.data.toList (zsT n)).toArray⟩ : ByteArray) = LL at *
      generalize (⟨(zsT n).toArray⟩ : ByteArray) = Z at *
      clear hE hok HDE
      go_enter Try.func17, Try.ntmps17
      go_wp2_with fail
      refine HI.out.mono ?_; rintro e w1 ⟨rfl, q, rfl⟩
      go_wp2_with fail
      refine (l00In_yes _ _ _ _ hc1 hc2).mono ?_; rintro e w2 ⟨rfl, rfl⟩
      have HB1 := Lib.hid (below_drewN HB.out q)
      have HK1 := Lib.hid (HBK.out.drewN q)
      have HR1 := Lib.hid (HRD.out.drewN q)
      clear HB HBK HRD HI
      generalize (w.alloc (.cells #[.slice A1 n1 c1, .string s] 28)).drewN q = W1 at *
      go_wp2_with (at_make; refine wpList_make_full _ rfl _ _ 41 rfl W1.heap.size 5 i0 (.int .u8 0) 1 Try.underlying41 hi hz0 hz1 _ _ _ _ n rfl rfl rfl rfl ?b2 ?b3 (Nat.le_refl _) ?_)
      case b2 => rw [hz2]; omega
      case b3 => unfold maxLen; omega
      intro w3 hown hgrow
      have hb3 : Below W1.heap.size W1 w3 := (Below.refl _ _).grown hgrow (Nat.le_refl _) (by simp)
      rw [toList_madeCells_one] at hown
      have ho3 : OwnN w3 W1.heap.size (.slice (some ⟨W1.heap.size, 0, none⟩) n n) (List.replicate n 0) := by
        unfold OwnN natVals
        rw [List.map_replicate, List.length_replicate]
        exact hown
      have HO3 := Lib.hid ho3.rdn
      have HB3 := Lib.hid hb3
      clear hown hgrow ho3 hb3
      go_wp2_with fail
      refine (HTX.out _ _ HO3.out).mono ?_; rintro e w4 ⟨rfl, hb4⟩
      have HB4 := Lib.hid (HB3.out.trans (hb4.mono HB3.out.size))
      clear hb4
      go_wp2_with fail
      refine (HD2.out _ (HK1.out.keep HB4.out) (HR1.out.keep HB4.out)).mono ?_; rintro e w5 ⟨rfl, hb5⟩
      have HB5 := Lib.hid (HB1.out.trans ((HB4.out.trans (hb5.mono HB4.out.size)).mono HB1.out.size))
      clear hb5
      go_wp2_with fail
      go_ret2
      exact ⟨rfl, HB5.out⟩
    · rw [decide_eq_false hc] at hE
      rw [wbV_no hE, hE]
      have HC := Lib.hid hc
      clear hE hok HDE hc
      go_enter Try.func17, Try.ntmps17
      go_wp2_with fail
      refine HI.out.mono ?_; rintro e w1 ⟨rfl, q, rfl⟩
      go_wp2_with fail
      refine (l00In_no _ _ _ _ HC.out).mono ?_; rintro e w2 ⟨rfl, rfl⟩
      go_wp2_with fail
      go_ret2
      exact ⟨rfl, below_drewN HB.out q⟩
end Go.Proofs.Ytddlpbpcdjddpaa

namespace Go.Proofs.Ytddlpbpcdjddpaa
open Go Go.RowKit
set_option linter.unusedVariables false

/-- At most 800 numbers -1, 0 and 1. -/
def lvB (l : List Int) : Bool := decide (l.length ≤ 800) && l.all fun x => decide (-1 ≤ x ∧ x ≤ 1)
theorem lvB_parts {l : List Int} (h : lvB l = true) : l.length ≤ 800 ∧ ∀ x ∈ l, -1 ≤ x ∧ x ≤ 1 := by
  unfold lvB at h
  obtain ⟨h1, h2⟩ := Bool.and_eq_true_iff.1 h
  rw [List.all_eq_true] at h2
  exact ⟨of_decide_eq_true h1, fun x hx => of_decide_eq_true (h2 x hx)⟩
theorem lvB_mk {l : List Int} (h1 : l.length ≤ 800) (h3 : ∀ x ∈ l, -1 ≤ x ∧ x ≤ 1) : lvB l = true := by
  unfold lvB
  rw [decide_eq_true h1, Bool.true_and, List.all_eq_true]
  exact fun x hx => decide_eq_true (h3 x hx)
theorem lvB_bad {l : List Int} {x : Int} (hx : x ∈ l) (h : ¬ (-1 ≤ x ∧ x ≤ 1)) : lvB l = false := by
  cases e : lvB l
  · rfl
  · exact absurd ((lvB_parts e).2 x hx) h
theorem lvB_len {l : List Int} (h : ¬ l.length ≤ 800) : lvB l = false := by
  cases e : lvB l
  · rfl
  · exact absurd (lvB_parts e).1 h
theorem getD_at {l : List Int} {k : Nat} (h : k < l.length) : l.getD k 0 = l[k] := by
  simp [List.getD, List.getElem?_eq_getElem h]
/-- The sum of the first k levels, the least and the greatest one so far. -/
def smA (l : List Int) : Nat → Int
  | 0 => 0
  | k + 1 => smA l k + l.getD k 0
def smLo (l : List Int) : Nat → Int
  | 0 => 0
  | k + 1 => min (smLo l k) (smA l (k + 1))
def smHi (l : List Int) : Nat → Int
  | 0 => 0
  | k + 1 => max (smHi l k) (smA l (k + 1))
theorem smA_bd {l : List Int} (h : ∀ x ∈ l, -1 ≤ x ∧ x ≤ 1) : ∀ k, k ≤ l.length → -(k : Int) ≤ smA l k ∧ smA l k ≤ k
  | 0, _ => by simp [smA]
  | k + 1, hk => by
    have h1 := smA_bd h k (by omega)
    have h4 := h (l[k]'(by omega)) (List.getElem_mem _)
    rw [smA, getD_at (by omega)]
    omega
theorem smLo_bd {l : List Int} (h : ∀ x ∈ l, -1 ≤ x ∧ x ≤ 1) : ∀ k, k ≤ l.length → -(k : Int) ≤ smLo l k ∧ smLo l k ≤ 0
  | 0, _ => by simp [smLo]
  | k + 1, hk => by
    have h1 := smLo_bd h k (by omega)
    have h2 := smA_bd h (k + 1) hk
    rw [smLo]
    omega
theorem smHi_bd {l : List Int} (h : ∀ x ∈ l, -1 ≤ x ∧ x ≤ 1) : ∀ k, k ≤ l.length → 0 ≤ smHi l k ∧ smHi l k ≤ k
  | 0, _ => by simp [smHi]
  | k + 1, hk => by
    have h1 := smHi_bd h k (by omega)
    have h2 := smA_bd h (k + 1) hk
    rw [smHi]
    omega
theorem smA_at {l : List Int} {k : Nat} (h : k < l.length) : smA l (k + 1) = smA l k + l[k] := by
  rw [smA, getD_at h]
def smOk (l : List Int) : Bool := lvB l
def smL (l : List Int) : Int := if lvB l then smLo l l.length else 0
def smH (l : List Int) : Int := if lvB l then smHi l l.length else 0
/-- The levels turned. -/
def ngL (l : List Int) : List Int := l.map fun x => -x
def ngV (l : List Int) : List Int := if lvB l then ngL l else []
theorem ngL_len (l : List Int) : (ngL l).length = l.length := by simp [ngL]
theorem ngL_at (l : List Int) (k : Nat) (h : k < (ngL l).length) : (ngL l)[k] = -(l[k]'(by simpa [ngL] using h)) := by simp [ngL]
theorem ngL_take {l : List Int} {k : Nat} (h : k < l.length) : (ngL l).take (k + 1) = (ngL l).take k ++ [-l[k]] := by
  rw [List.take_succ_eq_append_getElem (by rw [ngL_len]; exact h), ngL_at]
theorem ngV_len (l : List Int) : (ngV l).length ≤ 800 := by
  unfold ngV
  split
  · rename_i h; rw [ngL_len]; exact (lvB_parts h).1
  · simp
/-- The runs among the first k levels: those that have ended, and the last one. -/
def rnI (l : List Int) : Nat → List Int × Int
  | 0 => ([], 0)
  | k + 1 => if k = 0 then ([], 1) else if l.getD k 0 ≠ l.getD (k - 1) 0 then ((rnI l k).1 ++ [(rnI l k).2], 1) else ((rnI l k).1, (rnI l k).2 + 1)
/-- The greatest run among the first k levels. -/
def mxI (l : List Int) : Nat → Int
  | 0 => 0
  | k + 1 => max (mxI l k) (rnI l (k + 1)).2
def flK (l : List Int) (k : Nat) : List Int := if k = 0 then [] else (rnI l k).1 ++ [(rnI l k).2]
theorem rnI_bd (l : List Int) : ∀ k, 0 ≤ (rnI l k).2 ∧ (rnI l k).2 ≤ k ∧ (rnI l k).1.length ≤ k - 1
  | 0 => by simp [rnI]
  | k + 1 => by
    have := rnI_bd l k
    rw [rnI]
    split
    · simp; omega
    · split
      · simp; omega
      · simp; omega
theorem rnI_all (l : List Int) : ∀ k, ∀ x ∈ (rnI l k).1, 0 ≤ x ∧ x ≤ k
  | 0 => by simp [rnI]
  | k + 1 => by
    have h1 := rnI_all l k
    have h2 := rnI_bd l k
    intro x hx
    rw [rnI] at hx
    split at hx
    · simp at hx
    · split at hx
      · rcases List.mem_append.1 hx with h | h
        · have := h1 x h; omega
        · simp at h; omega
      · have := h1 x hx; omega
theorem mxI_bd (l : List Int) : ∀ k, 0 ≤ mxI l k ∧ mxI l k ≤ k
  | 0 => by simp [mxI]
  | k + 1 => by
    have h1 := mxI_bd l k
    have h2 := rnI_bd l (k + 1)
    rw [mxI]
    omega
theorem mxI_max (l : List Int) : ∀ k, 0 < k → (mxI l k ∈ flK l k) ∧ ∀ x ∈ flK l k, x ≤ mxI l k
  | 0, h => by omega
  | k + 1, _ => by
    by_cases hk : k = 0
    · subst hk
      simp [mxI, flK, rnI]; omega
    · obtain ⟨h1, h2⟩ := mxI_max l k (by omega)
      have hb := rnI_bd l k
      have hm := mxI_bd l k
      unfold flK at h1 h2 ⊢
      rw [if_neg hk] at h1 h2
      rw [if_neg (by omega), mxI, rnI, if_neg hk]
      by_cases hn : l.getD k 0 ≠ l.getD (k - 1) 0
      · rw [if_pos hn]
        dsimp only
        constructor
        · by_cases hh : mxI l k ≤ 1
          · rw [show max (mxI l k) 1 = 1 by omega]; simp
          · rw [show max (mxI l k) 1 = mxI l k by omega]; exact List.mem_append_left _ h1
        · intro x hx
          rcases List.mem_append.1 hx with h | h
          · have := h2 x h; omega
          · simp at h; subst h; omega
      · rw [if_neg hn]
        dsimp only
        constructor
        · by_cases hh : mxI l k ≤ (rnI l k).2 + 1
          · rw [show max (mxI l k) ((rnI l k).2 + 1) = (rnI l k).2 + 1 by omega]; simp
          · rw [show max (mxI l k) ((rnI l k).2 + 1) = mxI l k by omega]
            rcases List.mem_append.1 h1 with h | h
            · exact List.mem_append_left _ h
            · simp at h; omega
        · intro x hx
          rcases List.mem_append.1 hx with h | h
          · have := h2 x (List.mem_append_left _ h); omega
          · simp at h; subst h; omega
theorem flK_len (l : List Int) (k : Nat) : (flK l k).length ≤ k := by
  unfold flK
  have := rnI_bd l k
  split
  · simp
  · simp; omega
theorem flK_new (l : List Int) (k : Nat) (h : k = 0 ∨ l.getD k 0 ≠ l.getD (k - 1) 0) : flK l (k + 1) = flK l k ++ [1] := by
  unfold flK
  rw [if_neg (by omega), rnI]
  by_cases hk : k = 0
  · rw [if_pos hk, if_pos hk]
  · rw [if_neg hk, if_neg hk, if_pos (h.resolve_left hk)]
theorem flK_old (l : List Int) (k : Nat) (h : ¬ (k = 0 ∨ l.getD k 0 ≠ l.getD (k - 1) 0)) : flK l (k + 1) = (flK l k).set ((flK l k).length - 1) ((flK l k).getD ((flK l k).length - 1) 0 + 1) := by
  unfold flK
  have hk : ¬ k = 0 := fun e => h (.inl e)
  have he : ¬ l.getD k 0 ≠ l.getD (k - 1) 0 := fun e => h (.inr e)
  rw [if_neg (by omega), rnI, if_neg hk, if_neg hk, if_neg he]
  generalize (rnI l k).1 = a
  generalize (rnI l k).2 = b
  have e : (a ++ [b]).length - 1 = a.length := by simp
  rw [e]
  simp
theorem flK_pos (l : List Int) (k : Nat) (h : 0 < k) : 0 < (flK l k).length := by
  unfold flK; rw [if_neg (by omega)]; simp
theorem flK_bd (l : List Int) (k : Nat) : ∀ j, 0 ≤ (flK l k).getD j 0 ∧ (flK l k).getD j 0 ≤ k := by
  intro j
  by_cases hj : j < (flK l k).length
  · rw [getD_at hj]
    have hm := List.getElem_mem hj
    generalize (flK l k)[j] = x at *
    unfold flK at hm
    split at hm
    · simp at hm
    · rcases List.mem_append.1 hm with h | h
      · exact rnI_all l k x h
      · have := rnI_bd l k
        simp at h; omega
  · rw [List.getD_eq_getElem?_getD, List.getElem?_eq_none (by omega)]; simp
def fltV (l : List Int) : Int := if lvB l then mxI l l.length else 0
/-- The changes among the first k levels. -/
def chI (l : List Int) : Nat → Int
  | 0 => 0
  | k + 1 => if k = 0 then 0 else if l.getD k 0 ≠ l.getD (k - 1) 0 then chI l k + 1 else chI l k
theorem chI_bd (l : List Int) : ∀ k, 0 ≤ chI l k ∧ chI l k ≤ k
  | 0 => by simp [chI]
  | k + 1 => by
    have h1 := chI_bd l k
    rw [chI]
    split
    · omega
    · split <;> omega
def chnV (l : List Int) : Int := if lvB l then chI l l.length else 0
/-- The sign of a level. -/
def sgB (x : Int) : UInt8 := if x = -1 then 45 else if x = 0 then 48 else 43
def sgL (l : List Int) : List UInt8 := l.map sgB
def txV (l : List Int) : List UInt8 := if lvB l then sgL l else []
theorem sgL_len (l : List Int) : (sgL l).length = l.length := by simp [sgL]
theorem sgL_take {l : List Int} {k : Nat} (h : k < l.length) : (sgL l).take (k + 1) = (sgL l).take k ++ [sgB l[k]] := by
  rw [List.take_succ_eq_append_getElem (by rw [sgL_len]; exact h)]
  simp [sgL]
/-- The level of a sign, and whether a text is one of levels. -/
def lvN (c : UInt8) : Int := if c = 45 then -1 else if c = 48 then 0 else 1
def isS (c : UInt8) : Bool := c == 45 || c == 48 || c == 43
def rltB (l : List UInt8) : Bool := decide (l.length ≤ 800) && l.all isS
def rltV (l : List UInt8) : List Int := if rltB l then l.map lvN else []
theorem rltB_parts {l : List UInt8} (h : rltB l = true) : l.length ≤ 800 ∧ ∀ x ∈ l, isS x = true := by
  unfold rltB at h
  obtain ⟨h1, h2⟩ := Bool.and_eq_true_iff.1 h
  rw [List.all_eq_true] at h2
  exact ⟨of_decide_eq_true h1, h2⟩
theorem rltB_mk {l : List UInt8} (h1 : l.length ≤ 800) (h3 : ∀ x ∈ l, isS x = true) : rltB l = true := by
  unfold rltB
  rw [decide_eq_true h1, Bool.true_and, List.all_eq_true]
  exact h3
theorem rltB_bad {l : List UInt8} {x : UInt8} (hx : x ∈ l) (h : isS x = false) : rltB l = false := by
  cases e : rltB l
  · rfl
  · rw [(rltB_parts e).2 x hx] at h; cases h
theorem rltB_len {l : List UInt8} (h : ¬ l.length ≤ 800) : rltB l = false := by
  cases e : rltB l
  · rfl
  · exact absurd (rltB_parts e).1 h
theorem rltV_len (l : List UInt8) : (rltV l).length ≤ 800 := by
  unfold rltV
  split
  · rename_i h; simp; exact (rltB_parts h).1
  · simp
end Go.Proofs.Ytddlpbpcdjddpaa

namespace Go.Proofs.Ytddlpbpcdjddpaa
open Go Go.RowKit
set_option linter.unusedVariables false

/-- A list of bytes. -/
def R8 (w : World) (v : Value) (l : List Int) : Prop :=
  ∃ (A : Option Addr) (n c : Nat), v = .slice A n c ∧ l.length = n ∧
    (0 < n → ∃ b o, A = some ⟨b, o, none⟩ ∧ b < w.heap.size ∧ ∀ i (h : i < l.length), w.cell? ⟨b, o + i, none⟩ = some (.int .u8 l[i]))
set_option maxRecDepth 100000 in
set_option maxHeartbeats 2000000 in
theorem lengthsB_any (w : World) (v : Value) (l : List Int) (h : R8 w v l) (hl : l.length ≤ 800) :
    Calls Try.prog 87 #[v] w fun e w' => ∃ u, e = .returned u ∧ Own w' w.heap.size u (flK l l.length) ∧ Below w.heap.size w w' := by
  obtain ⟨i0, hi, hz0, hz1, hz2⟩ := info_parts Try.infoInt
  obtain ⟨A, n, c, rfl, hn, r⟩ := h
  rw [hn] at hl ⊢
  have HN := Lib.hid hn
  have HR := Lib.hid r
  clear hn r
  go_enter Try.func87, Try.ntmps87
  go_wp2_with fail
  go_loopw [3, 7] (fun v i wr => ∃ k : Nat, k ≤ n ∧ i = .int .i64 k ∧ wr.ownsRow w.heap.size 2 1 v (flK l k).length (intVals (flK l k)) ∧ Below w.heap.size w wr) (fun _ i _ => n - (intOf i).toNat)
  case atStart => exact ⟨0, Nat.zero_le _, rfl, World.ownsRow_nil _ _ _ _, Below.refl _ _⟩
  case round =>
    obtain ⟨k, hk, rfl, hown, hb⟩ := hrel
    have hB := hb.size
    by_cases hlt : k < n
    · obtain ⟨b, o, rfl, hlt0, hc⟩ := HR.out (by omega)
      have hkl : k < l.length := by have := HN.out; omega
      have hcc : ∀ i (h : i < l.length), wr.cell? ⟨b, o + i, none⟩ = some (.int .u8 l[i]) := fun i h => (hb.cell (p := ⟨b, o + i, none⟩) hlt0).trans (hc i h)
      have hx1 := getD_at hkl
      have hle := flK_len l k
      clear hc
      by_cases hnew : k = 0 ∨ l.getD k 0 ≠ l.getD (k - 1) 0
      · have HR1 := Lib.hid (flK_new l k hnew)
        generalize hrk : flK l k = R at hown hle
        have HRK := Lib.hid hrk
        clear hrk
        have hHS : w.heap.size ≤ (wr.alloc (.cells #[.int .i64 0] 2)).heap.size := by simp; omega
        have hfin : ∀ (g cap : Nat) (w1 : World), w1.ownsRow w.heap.size 2 1 (.slice (some ⟨g, 0, none⟩) (R.length + 1) cap) (R.length + 1) (intVals R ++ [.int .i64 0]) → Below w.heap.size w w1 → (w1.setCell ⟨g, R.length, none⟩ (.int .i64 1)).ownsRow w.heap.size 2 1 (.slice (some ⟨g, 0, none⟩) (R.length + 1) cap) (flK l (k + 1)).length (intVals (flK l (k + 1))) := by
          intro g cap w1 h1 _
          have h2 := (h1.stored R.length (.int .i64 1)).1
          rw [set_new] at h2
          rw [HR1.out, HRK.out]
          simpa using h2
        have HFIN := Lib.hid hfin
        clear hfin
        rcases Nat.eq_zero_or_pos k with hk0 | hkp
        · subst hk0
          have h0 : ((0 : Int) == 0) = true := rfl
          clear hnew hx1 hcc
          go_wp2_with fail
          go_quiet (fail)
          go_wp2_with (at_builtin; refine wpList_append_lies _ rfl _ _ 22 rfl w.heap.size 2 i0 (.int .i64 0) 1 8 Try.underlying22 hi hz0 hz1 hz2 rfl (by decide) _ _ _ rfl (hown.alloc _) ⟨wr.heap.size, 0, none⟩ 1 1 [.int .i64 0] rfl rfl ?c1 ?c2 (by decide) ?c3 ?c4 ?c5 (wr.heap.size + 1) (by simp) ?_)
          case c1 => exact c1_int _ _ _
          case c2 => intro u hu; simp at hu; subst hu; rfl
          case c3 => unfold maxLen; omega
          case c4 => omega
          case c5 => exact hHS
          intro g cap w1 hown1 hgrow hat hlt1
          have hb1 := below_row (below_dn hb nq) hB (Nat.le_refl _) (own_drewN hown nq) hgrow
          have hst1 := HFIN.out g cap w1 hown1 hb1
          have hc := hown1.cellAt R.length (by omega)
          have hat2 : (intVals R ++ [Value.int .i64 0])[R.length]? = some (.int .i64 0) := by
            rw [List.getElem?_append_right (by rw [intVals_length]; omega), intVals_length, Nat.sub_self]; rfl
          rw [hat2] at hc
          have hfr := hown1.frozenAt R.length
          have hgB : w.heap.size ≤ g := by
            obtain ⟨g', cap', e', hb', -, -, -⟩ := own_some hown1 (by omega)
            injection e' with e' _ _
            injection e' with e'
            injection e' with e' _ _
            omega
          have HST := Lib.hid hst1
          have HBS := Lib.hid (hb1.setCell (p := ⟨g, R.length, none⟩) (by show _ ≤ g; omega) (.int .i64 1))
          have r1 : (0 : Int) ≤ (R.length : Int) := by omega
          have r2 : (R.length : Int) ≤ 1000 := by omega
          clear hown hown1 hgrow hat hlt1 hb hb1 hst1 hat2 hgB hB hHS HR
          go_wp2_with fail
          go_roundw
          case rel => exact ⟨_, by omega, by go_num, HST.out, HBS.out⟩
          case measure => simp [intOf]; omega
        · obtain ⟨j, rfl⟩ : ∃ j, k = j + 1 := ⟨k - 1, by omega⟩
          have hx2 := getD_at (l := l) (k := j) (by omega)
          have hne : (l[j + 1] != l[j]'(by omega)) = true := by
            apply bne_t
            rcases hnew with h | h
            · omega
            · rw [hx1, show j + 1 - 1 = j from rfl, hx2] at h; exact h
          have hd1 := hcc (j + 1) hkl
          have hd2 := hcc j (by omega)
          clear hnew hx1 hx2 hcc
          generalize l[j + 1] = x at *
          generalize l[j]'(by omega) = y at *
          have h0 : (((j : Int) + 1) == 0) = false := beq_f (by omega)
          have i1 : (0 : Int) ≤ (j : Int) := by omega
          have i2 : (j : Int) < (n : Int) := by omega
          have i3 : (j : Int) + 1 < (n : Int) := by omega
          go_wp2_with fail
          have w1 : IntKind.i64.wrap (j : Int) = (j : Int) := IntWalk.i64_in _ (by omega)
          have w2 : ((j : Int) + 1).toNat = j + 1 := by omega
          have w3 : (0 : Int) ≤ (j : Int) + 1 := by omega
          go_quiet (fail)
          clear w1
          go_wp2_with (at_builtin; refine wpList_append_lies _ rfl _ _ 22 rfl w.heap.size 2 i0 (.int .i64 0) 1 8 Try.underlying22 hi hz0 hz1 hz2 rfl (by decide) _ _ _ rfl (hown.alloc _) ⟨wr.heap.size, 0, none⟩ 1 1 [.int .i64 0] rfl rfl ?c1 ?c2 (by decide) ?c3 ?c4 ?c5 (wr.heap.size + 1) (by simp) ?_)
          case c1 => exact c1_int _ _ _
          case c2 => intro u hu; simp at hu; subst hu; rfl
          case c3 => unfold maxLen; omega
          case c4 => omega
          case c5 => exact hHS
          intro g cap w1 hown1 hgrow hat hlt1
          have hb1 := below_row (below_dn hb nq) hB (Nat.le_refl _) (own_drewN hown nq) hgrow
          have hst1 := HFIN.out g cap w1 hown1 hb1
          have hc := hown1.cellAt R.length (by omega)
          have hat2 : (intVals R ++ [Value.int .i64 0])[R.length]? = some (.int .i64 0) := by
            rw [List.getElem?_append_right (by rw [intVals_length]; omega), intVals_length, Nat.sub_self]; rfl
          rw [hat2] at hc
          have hfr := hown1.frozenAt R.length
          have hgB : w.heap.size ≤ g := by
            obtain ⟨g', cap', e', hb', -, -, -⟩ := own_some hown1 (by omega)
            injection e' with e' _ _
            injection e' with e'
            injection e' with e' _ _
            omega
          have HST := Lib.hid hst1
          have HBS := Lib.hid (hb1.setCell (p := ⟨g, R.length, none⟩) (by show _ ≤ g; omega) (.int .i64 1))
          have r1 : (0 : Int) ≤ (R.length : Int) := by omega
          have r2 : (R.length : Int) ≤ 1000 := by omega
          clear hown hown1 hgrow hat hlt1 hb hb1 hst1 hat2 hgB hB hHS HR hd1 hd2
          go_wp2_with fail
          go_roundw
          case rel => exact ⟨_, by omega, by go_num, HST.out, HBS.out⟩
          case measure => simp [intOf]; omega
      · have HR1 := Lib.hid (flK_old l k hnew)
        have hkp : 0 < k := by omega
        have hpos := flK_pos l k hkp
        have hbd := flK_bd l k ((flK l k).length - 1)
        generalize hrk : flK l k = R at hown hle hpos hbd
        have HRK := Lib.hid hrk
        clear hrk
        obtain ⟨m, hm⟩ : ∃ m, R.length = m + 1 := ⟨R.length - 1, by omega⟩
        have hatm : (intVals R)[m]? = some (.int .i64 (R.getD m 0)) := by
          rw [intVals_at R m (by omega), List.getD_eq_getElem?_getD, List.getElem?_eq_getElem (by omega)]; rfl
        rw [hm, show m + 1 - 1 = m from rfl] at hbd
        obtain ⟨x, hx⟩ : ∃ x, R.getD m 0 = x := ⟨_, rfl⟩
        have HX := Lib.hid hx
        rw [hx] at hbd hatm
        clear hx
        obtain ⟨q1, q2⟩ := hbd
        have q3 : x ≤ 1000 := by omega
        rw [hm] at hown hle hpos
        obtain ⟨g, cap, rfl, hg1, hg2, hg3, hg4⟩ := own_some hown (by omega)
        have hc := (hown.cellAt m (by omega)).trans hatm
        have hfr := hown.frozenAt m
        have hst := (hown.stored m (.int .i64 (x + 1))).1
        have hset : (wr.setCell ⟨g, m, none⟩ (.int .i64 (x + 1))).ownsRow w.heap.size 2 1 (.slice (some ⟨g, 0, none⟩) (m + 1) cap) (flK l (k + 1)).length (intVals (flK l (k + 1))) := by
          rw [HR1.out, HRK.out, hm, show m + 1 - 1 = m from rfl, HX.out, ← set_old, List.length_set, hm]
          exact hst
        have HSET := Lib.hid hset
        have HBS := Lib.hid (hb.setCell (p := ⟨g, m, none⟩) (by show _ ≤ g; omega) (.int .i64 (x + 1)))
        obtain ⟨j, rfl⟩ : ∃ j, k = j + 1 := ⟨k - 1, by omega⟩
        have hx2 := getD_at (l := l) (k := j) (by omega)
        have heq : l[j + 1] = l[j]'(by omega) := by
          by_cases h6 : l.getD (j + 1) 0 = l.getD (j + 1 - 1) 0
          · rw [hx1, show j + 1 - 1 = j from rfl, hx2] at h6; exact h6
          · exact absurd (Or.inr h6) hnew
        have hd1 := hcc (j + 1) hkl
        have hd2 := hcc j (by omega)
        rw [heq] at hd1
        clear hnew hx1 hx2 heq hcc
        generalize l[j]'(by omega) = y at *
        have hne : (y != y) = false := bne_f rfl
        have h0 : (((j : Int) + 1) == 0) = false := beq_f (by omega)
        have i1 : (0 : Int) ≤ (j : Int) := by omega
        have i2 : (j : Int) < (n : Int) := by omega
        have i3 : (j : Int) + 1 < (n : Int) := by omega
        have i4 : (0 : Int) ≤ (m : Int) := by omega
        have i5 : (m : Int) ≤ 1000 := by omega
        clear hst hset hatm hown hb hm hB
        go_wp2_with fail
        have w1 : IntKind.i64.wrap (j : Int) = (j : Int) := IntWalk.i64_in _ (by omega)
        have w2 : ((j : Int) + 1).toNat = j + 1 := by omega
        have w3 : (0 : Int) ≤ (j : Int) + 1 := by omega
        go_quiet (fail)
        clear w1
        go_wp2_with fail
        go_roundw
        case rel => exact ⟨j + 1 + 1, by omega, by go_num, HSET.out, below_dn HBS.out _⟩
        case measure => simp [intOf]; omega
    · obtain rfl : k = n := by omega
      go_wp2_with fail
      go_ret
      exact ⟨_, rfl, hown, hb⟩

end Go.Proofs.Ytddlpbpcdjddpaa

namespace Go.Proofs.Ytddlpbpcdjddpaa
open Go Go.RowKit
set_option linter.unusedVariables false

def capB (W : World) (s : ByteArray) : Nat := grownCap W s.size 0 5
def rowB (W : World) (s : ByteArray) : Array Value := bytesRow s (capB W s)
def markB (W : World) (s : ByteArray) : Nat × Nat := ((rowB W s).size, (rowB W s).size + 1)
theorem convB (W : World) (s : ByteArray) : (convert 9 41 (.string s)).run Try.prog W = .ok (.slice (some ⟨W.heap.size, 0, none⟩) s.size (capB W s)) (W.drew.alloc (.cells (rowB W s) 5 (markB W s))) :=
  run_bytes_of_string W 9 41 5 s Try.underlying9 Try.underlying41 Try.underlying5
theorem capB_le (W : World) (s : ByteArray) : s.size ≤ capB W s := grownCap_ge _ _ _ _
theorem rowB_at (W : World) (s : ByteArray) (j : Nat) (h : j < s.size) : (rowB W s)[j]? = some (.int .u8 (s[j].toNat : Int)) := by
  unfold rowB bytesRow
  rw [Array.getElem?_append_left (by simpa using h), Array.getElem?_map, Array.getElem?_eq_getElem (by simpa using h)]
  rfl
theorem byteVals_at (l : List UInt8) (i : Nat) (x : Value) (h : (byteVals l)[i]? = some x) : ∃ hi : i < l.length, x = .int .u8 (l[i].toNat : Int) := by
  unfold byteVals at h
  rw [List.getElem?_map] at h
  cases e : l[i]? with
  | none => rw [e] at h; cases h
  | some c =>
    rw [e] at h
    obtain ⟨hi, rfl⟩ := List.getElem?_eq_some_iff.1 e
    exact ⟨hi, by simpa using h.symm⟩
/-- The row reads as the text's bytes. -/
theorem rdv_conv (W : World) (s : ByteArray) (hs : s.size ≤ maxLen) (o : World) : RdV (· = W.heap.size) (W.drew.alloc (.cells (rowB o s) 5 (markB o s))) (.slice (some ⟨W.heap.size, 0, none⟩) s.size (capB o s)) (byteVals s.data.toList) := by
  refine ⟨_, _, _, rfl, by simp [byteVals], capB_le o s, hs, fun _ => ⟨W.heap.size, 0, rfl, rfl, by simp, fun i x hx => ?_⟩⟩
  obtain ⟨hi, rfl⟩ := byteVals_at _ _ _ hx
  have hi' : i < s.size := by simpa using hi
  rw [Nat.zero_add]
  have := World.cell?_alloc_mark W.drew (rowB o s) 5 (markB o s) i
  rw [show W.drew.heap.size = W.heap.size from rfl] at this
  rw [this, rowB_at o s i hi']
  rfl
end Go.Proofs.Ytddlpbpcdjddpaa

namespace Go.Proofs.Ytddlpbpcdjddpaa
open Go Go.RowKit
set_option linter.unusedVariables false

/-- Bytes as numbers. -/
def u8I (l : List UInt8) : List Int := l.map fun b => (b.toNat : Int)
theorem u8I_at (l : List UInt8) (k : Nat) (h : k < l.length) : (u8I l).getD k 0 = (l[k].toNat : Int) := by
  unfold u8I
  rw [List.getD_eq_getElem?_getD, List.getElem?_map, List.getElem?_eq_getElem h]; rfl
theorem flK_runs (l : List UInt8) : ∀ k, k ≤ l.length → flK (u8I l) k = runsK l k := by
  intro k
  induction k with
  | zero => intro _; rfl
  | succ k ih =>
    intro hk
    have ih := ih (by omega)
    have he : ((u8I l).getD k 0 ≠ (u8I l).getD (k - 1) 0) ↔ (l[k]? ≠ l[k - 1]?) := by
      rw [u8I_at l k (by omega), u8I_at l (k - 1) (by omega), List.getElem?_eq_getElem (show k < l.length by omega), List.getElem?_eq_getElem (show k - 1 < l.length by omega)]
      constructor
      · intro h e; injection e with e; rw [e] at h; exact h rfl
      · intro h e
        apply h
        have : l[k].toNat = l[k - 1].toNat := by omega
        rw [UInt8.toNat_inj.1 this]
    by_cases hn : k = 0 ∨ l[k]? ≠ l[k - 1]?
    · rw [runsK_new l k hn, flK_new _ k (hn.imp id he.2), ih]
    · rw [runsK_old l k hn, flK_old _ k (fun h => hn (h.imp id he.1)), ih]

set_option maxRecDepth 100000 in
/-- impl.RunLengths of few bits: a new row with the lengths. -/
theorem runLengths_yes_impl (s : ByteArray) (w : World) (hs : s.size ≤ 400) (hB : isB s.data.toList = true) :
    Calls Try.prog 69 #[.string s] w fun e w' => ∃ v, e = .returned (.tuple #[v, .bool true]) ∧ Own w' w.heap.size v (runsK s.data.toList s.size) ∧ Below w.heap.size w w' := by
  have HSZ := Lib.hid hs
  have HB := Lib.hid hB
  clear hB
  go_enter Try.func69, Try.ntmps69
  go_wp2_with fail
  refine (isBits_any _ _ (by unfold maxLen; omega)).mono ?_; rintro e wi ⟨rfl, hbi⟩
  rw [HB.out]
  have hW1 := hbi.size
  have hcv := convB wi s
  have HR8 : Hid (R8 (wi.drew.alloc (.cells (rowB wi s) 5 (markB wi s))) (.slice (some ⟨wi.heap.size, 0, none⟩) s.size (capB wi s)) (u8I s.data.toList)) := by
    refine ⟨_, _, _, rfl, by simp [u8I], fun _ => ⟨wi.heap.size, 0, rfl, by simp, fun i hi => ?_⟩⟩
    have hi' : i < s.size := by simpa [u8I] using hi
    rw [Nat.zero_add]
    have := World.cell?_alloc_mark wi.drew (rowB wi s) 5 (markB wi s) i
    rw [show wi.drew.heap.size = wi.heap.size from rfl] at this
    rw [this, rowB_at wi s i hi']
    simp [u8I]
    rfl
  have HLE : Hid ((u8I s.data.toList).length ≤ 800) := by show _ ≤ _; have := HSZ.out; simp [u8I]; omega
  have HFL : Hid (flK (u8I s.data.toList) (u8I s.data.toList).length = runsK s.data.toList s.size) := by
    show _ = _
    rw [show (u8I s.data.toList).length = s.data.toList.length by simp [u8I], flK_runs _ _ (Nat.le_refl _)]
    simp
  have HBW : Hid (Below w.heap.size w (wi.drew.alloc (.cells (rowB wi s) 5 (markB wi s)))) := by show Below _ _ _; exact hbi.drew.alloc hW1 _
  have HC := Lib.hid (lengthsB_any _ _ _ HR8.out HLE.out)
  rw [HFL.out] at HC
  have HZ : Hid (w.heap.size ≤ (wi.drew.alloc (.cells (rowB wi s) 5 (markB wi s))).heap.size) := by show _ ≤ _; exact HBW.out.size
  clear hbi
  go_wp2_with fail
  refine HC.out.mono ?_; rintro e w2 ⟨u, rfl, ho, hb⟩
  have ho2 : Own w2 w.heap.size u (runsK s.data.toList s.size) := by
    refine ⟨ho.1, ?_⟩
    rcases ho.2 with h' | ⟨g, cap, cur, h1, h2, h3⟩
    · exact .inl h'
    · exact .inr ⟨g, cap, cur, h1, Nat.le_trans HZ.out h2, h3⟩
  have HB2 := Lib.hid (HBW.out.trans (hb.mono HZ.out))
  have HO2 := Lib.hid ho2
  clear ho hb ho2
  go_wp2_with fail
  go_ret2
  exact ⟨_, rfl, HO2.out, HB2.out⟩

/-- What RunLengths answers. -/
def rl (l : List UInt8) : List Int := if isB l = true then runsK l l.length else []
theorem rl_len (l : List UInt8) : (rl l).length ≤ 400 := by
  unfold rl
  split
  · rename_i h
    unfold isB at h
    have h2 := of_decide_eq_true (Bool.and_eq_true_iff.1 h).1
    have := runsK_le l l.length
    omega
  · simp
theorem isB_len {s : ByteArray} (h : isB s.data.toList = true) : s.size ≤ 400 := by
  unfold isB at h
  have h2 := of_decide_eq_true (Bool.and_eq_true_iff.1 h).1
  simpa using h2

theorem runLengths_impl (s : ByteArray) (w : World) (hs : s.size ≤ maxLen) :
    Calls Try.prog 69 #[.string s] w fun e w' => ∃ v, e = .returned (.tuple #[v, .bool (isB s.data.toList)]) ∧ Own w' w.heap.size v (rl s.data.toList) ∧ Below w.heap.size w w' := by
  have HS := Lib.hid hs
  clear hs
  cases hB : isB s.data.toList
  · have HR : Hid (rl s.data.toList = []) := by show _ = _; unfold rl; rw [if_neg (by rw [hB]; decide)]
    go_enter Try.func69, Try.ntmps69
    go_wp2_with fail
    refine (isBits_any _ _ HS.out).mono ?_; rintro e w' ⟨rfl, hb⟩
    go_wp2_with fail
    go_ret2
    exact ⟨_, rfl, by rw [HR.out]; exact World.ownsRow_nil _ _ _ _, hb⟩
  · have HR : Hid (rl s.data.toList = runsK s.data.toList s.size) := by show _ = _; unfold rl; rw [if_pos hB]; rfl
    exact (runLengths_yes_impl s w (isB_len hB) hB).mono fun e w' ⟨v, h1, h2, h3⟩ => ⟨v, h1, by rw [HR.out]; exact h2, h3⟩

end Go.Proofs.Ytddlpbpcdjddpaa

namespace Go.Proofs.Ytddlpbpcdjddpaa
open Go Go.RowKit
set_option linter.unusedVariables false

/-- The greatest of some numbers, or 0. -/
def gr0 (l : List Int) : Int := l.foldl max 0
def lsV (l : List UInt8) : Int := gr0 (rl l)
theorem foldl_max_ge : ∀ (l : List Int) (a : Int), a ≤ l.foldl max a ∧ ∀ x ∈ l, x ≤ l.foldl max a
  | [], a => ⟨Int.le_refl _, fun x hx => by cases hx⟩
  | y :: l, a => by
    obtain ⟨h1, h2⟩ := foldl_max_ge l (max a y)
    refine ⟨by show a ≤ l.foldl max (max a y); omega, fun x hx => ?_⟩
    show x ≤ l.foldl max (max a y)
    rcases List.mem_cons.1 hx with rfl | h
    · omega
    · exact h2 x h
theorem foldl_max_mem : ∀ (l : List Int) (a : Int), l.foldl max a = a ∨ l.foldl max a ∈ l
  | [], a => .inl rfl
  | y :: l, a => by
    show l.foldl max (max a y) = a ∨ l.foldl max (max a y) ∈ y :: l
    rcases foldl_max_mem l (max a y) with h | h
    · rw [h]
      rcases Int.le_total a y with h' | h'
      · exact .inr (by rw [Int.max_eq_right h']; exact List.mem_cons_self ..)
      · exact .inl (Int.max_eq_left h')
    · exact .inr (List.mem_cons_of_mem _ h)
theorem gr0_isMax {l : List Int} {m : Int} (h : IsMax (l ++ [0]) m) : m = gr0 l := by
  obtain ⟨h1, h2⟩ := foldl_max_ge l 0
  have h3 := foldl_max_mem l 0
  unfold gr0
  have a : m ≤ l.foldl max 0 := by
    rcases List.mem_append.1 h.1 with h' | h'
    · exact h2 m h'
    · simp at h'; omega
  have b : l.foldl max 0 ≤ m := by
    rcases h3 with h' | h'
    · rw [h']; exact h.2 0 (List.mem_append_right _ (List.mem_cons_self ..))
    · exact h.2 _ (List.mem_append_left _ h')
  omega
theorem gr0_snoc (l : List Int) (x : Int) : gr0 (l ++ [x]) = max (gr0 l) x := by simp [gr0]
def lastR (l : List UInt8) (k : Nat) : Int := (runsK l k).getD ((runsK l k).length - 1) 0
theorem runs_new {l : List UInt8} {k : Nat} (h : k = 0 ∨ l[k]? ≠ l[k - 1]?) : lastR l (k + 1) = 1 ∧ gr0 (runsK l (k + 1)) = max (gr0 (runsK l k)) 1 := by
  unfold lastR
  rw [runsK_new l k h, gr0_snoc]
  exact ⟨by simp [List.getD], rfl⟩
theorem set_last (l : List Int) (h : 0 < l.length) (x : Int) : l.set (l.length - 1) x = l.dropLast ++ [x] := by
  have hne : l ≠ [] := by intro e; subst e; simp at h
  conv => lhs; rw [← List.dropLast_concat_getLast hne]
  rw [List.set_append, if_neg (by simp)]
  simp
theorem runs_old {l : List UInt8} {k : Nat} (h : ¬ (k = 0 ∨ l[k]? ≠ l[k - 1]?)) : lastR l (k + 1) = lastR l k + 1 ∧ gr0 (runsK l (k + 1)) = max (gr0 (runsK l k)) (lastR l k + 1) := by
  have hk : 0 < k := by rcases Nat.eq_zero_or_pos k with e | e; exact absurd (.inl e) h; exact e
  have hp := runsK_pos l k hk
  have hne : runsK l k ≠ [] := by intro e; rw [e] at hp; simp at hp
  have hl : lastR l k = (runsK l k).getLast hne := by
    unfold lastR
    rw [List.getD, List.getElem?_eq_getElem (by omega), List.getLast_eq_getElem]; rfl
  have e1 : runsK l (k + 1) = (runsK l k).dropLast ++ [lastR l k + 1] := by
    rw [runsK_old l k h, set_last _ hp]; rfl
  have e2 : runsK l k = (runsK l k).dropLast ++ [lastR l k] := by rw [hl, List.dropLast_concat_getLast]
  constructor
  · rw [show lastR l (k + 1) = (runsK l (k + 1)).getD ((runsK l (k + 1)).length - 1) 0 from rfl, e1]
    simp [List.getD]
  · rw [e1, gr0_snoc]
    conv => rhs; rw [e2, gr0_snoc]
    have : max (gr0 (runsK l k).dropLast) (lastR l k + 1) = max (max (gr0 (runsK l k).dropLast) (lastR l k)) (lastR l k + 1) := by omega
    rw [this]
theorem lastR_bd (l : List UInt8) (k : Nat) : 0 ≤ lastR l k ∧ lastR l k ≤ k := runsK_bd l k _
theorem gr0_bd (l : List UInt8) (k : Nat) : 0 ≤ gr0 (runsK l k) := (foldl_max_ge _ _).1

set_option maxRecDepth 100000 in
set_option maxHeartbeats 1000000 in
theorem longest_impl (w : World) (s : ByteArray) (hs : s.size ≤ maxLen) :
    Calls Try.prog 35 #[.string s] w fun e w' => e = .returned (.tuple #[.int .i64 (lsV s.data.toList), .bool (isB s.data.toList)]) ∧ Below w.heap.size w w' := by
  obtain ⟨i0, hi, hz0, hz1, hz2⟩ := info_parts Try.infoInt
  have HR := Lib.hid (fun W => runLengths_impl s W hs)
  have hle := rl_len s.data.toList
  cases hB : isB s.data.toList
  · have HV : Hid (lsV s.data.toList = 0) := by show _ = _; unfold lsV rl; rw [if_neg (by rw [hB]; decide)]; rfl
    rw [hB] at HR
    clear hB
    go_enter Try.func35, Try.ntmps35
    go_wp2_with fail
    refine (HR.out _).mono ?_; rintro e w1 ⟨v, rfl, ho, hb⟩
    have HB1 := Lib.hid hb
    clear ho hb
    go_wp2_with fail
    go_ret2
    exact ⟨ret_ib (by rw [HV.out]) rfl, HB1.out⟩
  · rw [hB] at HR
    have HV : Hid (lsV s.data.toList = gr0 (rl s.data.toList)) := rfl
    generalize lsV s.data.toList = V at *
    generalize rl s.data.toList = R at *
    clear hB
    go_enter Try.func35, Try.ntmps35
    go_wp2_with fail
    refine (HR.out _).mono ?_; rintro e w1 ⟨v, rfl, ho, hb⟩
    unfold Own at ho
    go_wp2_with (at_builtin; refine wpList_append_lies _ rfl _ _ 22 rfl w.heap.size 2 i0 (.int .i64 0) 1 8 Try.underlying22 hi hz0 hz1 hz2 rfl (by decide) _ _ _ rfl (ho.alloc _) ⟨w1.heap.size, 0, none⟩ 1 1 [.int .i64 0] rfl rfl ?c1 ?c2 (by decide) ?c3 ?c4 ?c5 (w1.heap.size + 1) (by simp) ?_)
    case c1 => exact c1_int _ _ _
    case c2 => intro u hu; simp at hu; subst hu; rfl
    case c3 => unfold maxLen; omega
    case c4 => omega
    case c5 => have := hb.size; simp; omega
    intro g cap w2 hown hgrow hat hlt
    have hb2 := below_cons hb hb.size ho hgrow
    have ho2 : Own w2 w.heap.size (.slice (some ⟨g, 0, none⟩) (R.length + 1) cap) (R ++ [0]) := by unfold Own; rw [List.length_append, ← intVals_snoc]; exact hown
    have HB2 := Lib.hid hb2
    have HMX := Lib.hid (max_any w2 _ (R ++ [0]) ho2.rd (by simp))
    clear hb ho hown hgrow hat hlt hb2 ho2
    go_wp2_with fail
    refine HMX.out.mono ?_; rintro e w3 ⟨m, rfl, hm, rfl⟩
    have HM : Hid (m = gr0 R) := gr0_isMax hm
    clear hm
    go_wp2_with fail
    go_ret2
    exact ⟨ret_ib (by rw [HM.out, HV.out]) rfl, HB2.out⟩
end Go.Proofs.Ytddlpbpcdjddpaa

namespace Go.Proofs.Ytddlpbpcdjddpaa
set_option linter.unusedVariables false
open Go Go.RowKit

theorem sc_facts {l : List Int} {s : List UInt8} (h : scOk l s = true) : tpOk l = true ∧ inR 48 49 s = true ∧ bitsN (stQ s) ∧ ((stQ s).length : Int) = wid l := by
  obtain ⟨h1, h2, h3⟩ := scOk_parts h
  obtain ⟨h4, h5⟩ := isB_r h2
  exact ⟨h1, h5, stQ_bits h5, by rw [stQ_len]; exact h3⟩
/-- The state is found again. -/
theorem found_key {l : List Int} {s g : List UInt8} (h : scOk l s = true) (hg : isB g = true) (hw : wid l ≤ (g.length : Int)) : fkIn l (adL l s g) g = true ∧ tx (fkS l (adL l s g) g) = s := by
  obtain ⟨ht, hs, hq, hl⟩ := sc_facts h
  obtain ⟨h400, hgr⟩ := isB_r hg
  have hkl := kb_len (l := l) hq g.length
  have hkb := kb_bits (l := l) hq g.length
  have hx := xor_key hgr hkb hkl
  have hal : (adL l s g).length = g.length := by unfold adL; rw [tx_len, mx_len, hkl]
  have har : inR 48 49 (adL l s g) = true := tx_inR (mx_bits hkb (gb_bits hgr) _)
  have hab : isB (adL l s g) = true := by unfold isB; rw [hal, decide_eq_true h400, har]; rfl
  have hin : fkIn l (adL l s g) g = true := by
    unfold fkIn xorOk
    rw [ht, hab, hg, hal, decide_eq_true hw]; simp
  refine ⟨hin, ?_⟩
  have hK : fkK (adL l s g) g = tx (kb l (stQ s) g.length) := by
    unfold fkK
    have := (xorB_turn har hgr (tx_inR hkb) hal (by rw [tx_len, hkl, hal])).1 (by rw [hal]; exact hx)
    exact this.symm
  have hW : fkW l = (stQ s).length := by unfold fkW; omega
  have hM : fkM l (adL l s g) g = kb l (stQ s) (stQ s).length := by
    unfold fkM
    rw [hK, gb_tx hkb, hW, kb_take hq _ _ (by omega)]
  unfold fkS
  rw [hM, hW, bst_key ht hq hl, stQ_gb, List.reverse_reverse, tx_gb hs]
theorem found_ok {l : List Int} {s g : List UInt8} (h : scOk l s = true) (hg : isB g = true) (hw : wid l ≤ (g.length : Int)) : fkOk l (adL l s g) g = true ∧ fkV l (adL l s g) g = ⟨s.toArray⟩ := by
  obtain ⟨h1, h2⟩ := found_key h hg hw
  have h3 : fkOk l (adL l s g) g = true := by
    unfold fkOk
    rw [h1, decide_eq_true ((fk_test h1).1 (by rw [h2]))]; rfl
  exact ⟨h3, by unfold fkV; rw [h3, h2]; rfl⟩
theorem zs20 : gb (zsT 20) = List.replicate 20 0 := by decide
theorem lsV20 : lsV (zsT 20) = 20 := by decide +kernel
/-- The worst bits are scrambled to bits 0. -/
theorem worst_zero {l : List Int} {s : List UInt8} (h : scOk l s = true) : wbOk l s 20 = true ∧ scbOk l s (scbL true l s (zsT 20)) = true ∧ scbL false l s (scbL true l s (zsT 20)) = zsT 20 := by
  obtain ⟨ht, hs, hq, hl⟩ := sc_facts h
  have hok := scF_ok true l (stQ s) hq (List.replicate 20 0) (zsN_bits 20)
  have e1 : scbL true l s (zsT 20) = tx (scF true l (stQ s) (List.replicate 20 0)).2 := by unfold scbL; rw [zs20]
  have e2 := sc_back l (stQ s) (List.replicate 20 0)
  refine ⟨by unfold wbOk; rw [h]; decide, ?_, ?_⟩
  · unfold scbOk isB
    rw [h, e1, tx_inR hok.2.1, tx_len, hok.2.2.2]
    decide
  · rw [e1]
    unfold scbL
    rw [gb_tx hok.2.1, e2.2]
    exact zsT_tx 20
/-- The key as bytes. -/
def kyB (l : List Int) (s : List UInt8) : ByteArray := ⟨(tx (kb l (stQ s) 300)).toArray⟩
theorem kyB_size {l : List Int} {s : List UInt8} (h : scOk l s = true) : (kyB l s).size = 300 := by
  obtain ⟨ht, hs, hq, hl⟩ := sc_facts h
  show (tx (kb l (stQ s) 300)).toArray.size = 300
  rw [List.size_toArray, tx_len, kb_len hq]
theorem kyB_at {l : List Int} {s : List UInt8} (h : scOk l s = true) (i : Nat) (hi : i < (kyB l s).size) : (((kyB l s)[i]).toNat : Int) = 48 + (kbit l (stQ s) i : Int) := by
  obtain ⟨ht, hs, hq, hl⟩ := sc_facts h
  have h300 := kyB_size h
  have hk := kb_len (l := l) hq 300
  have e : (kyB l s)[i] = (tx (kb l (stQ s) 300))[i]'(by rw [tx_len, hk]; omega) := rfl
  have hg := kb_get ht hq hl 300 i (by omega)
  rw [List.getD, List.getElem?_eq_getElem (by omega)] at hg
  have hg : (kb l (stQ s) 300)[i]'(by omega) = kbit l (stQ s) i := hg
  rw [e, tx_get _ i _ (by omega), hg, tx_byte]
  unfold kbit
  exact sm_le (wn_ok hq (by have := (tpOk_wid ht).1; omega) i).1 l
/-- The key repeats with its period. -/
theorem key_period {l : List Int} {s : List UInt8} (h : scOk l s = true) (i : Nat) : kbit l (stQ s) (i + kpN l (stQ s)) = kbit l (stQ s) i := by
  obtain ⟨ht, hs, hq, hl⟩ := sc_facts h
  exact kbit_on (kpN_ok ht hq hl).2.2.1 i
/-- With no lesser one. -/
theorem key_less {l : List Int} {s : List UInt8} (h : scOk l s = true) (d n : Nat) (h1 : 1 ≤ d) (hd : d < kpN l (stQ s)) (hn : wid l ≤ (n : Int)) : ∃ i, i < n ∧ kbit l (stQ s) i ≠ kbit l (stQ s) (i + d) := by
  obtain ⟨ht, hs, hq, hl⟩ := sc_facts h
  refine Classical.byContradiction fun hne => ?_
  have hall : ∀ i, i < (stQ s).length → kbit l (stQ s) i = kbit l (stQ s) (i + d) := fun i hi => Classical.byContradiction fun e => hne ⟨i, by omega, e⟩
  exact (kpN_ok ht hq hl).2.2.2 d h1 hd (wn_same ht hq hl d hall)
/-- Whether the first bits are the same at a distance. -/
def smK (l : List Int) (s : List UInt8) (d : Nat) : Nat → Bool
  | 0 => true
  | k + 1 => smK l s d k && decide (kbit l (stQ s) k = kbit l (stQ s) (k + d))
theorem smK_no {l : List Int} {s : List UInt8} {d i : Nat} (h : kbit l (stQ s) i ≠ kbit l (stQ s) (i + d)) : ∀ n, i < n → smK l s d n = false
  | 0, hn => by omega
  | n + 1, hn => by
    by_cases e : i = n
    · subst e; unfold smK; rw [decide_eq_false h]; simp
    · unfold smK; rw [smK_no h n (by omega)]; rfl
end Go.Proofs.Ytddlpbpcdjddpaa

namespace Go.Proofs.Ytddlpbpcdjddpaa
open Go Go.RowKit
set_option linter.unusedVariables false

def r8N (l : List Value) (k t : Nat) : Int := match l[k]? with | some (.int _ y) => y % (t : Int) | _ => 0
set_option maxRecDepth 100000 in
theorem r8At_any (w : World) (v : Value) (l : List Value) (k t : Nat) (ht : 2 ≤ t ∧ t ≤ 1000000) {K : Nat → Prop} (h : RdV K w v l) (hb : ∀ x ∈ l, ∃ y : Int, x = .int .u8 y ∧ 0 ≤ y ∧ y ≤ 255) :
    Calls Try.prog 28 #[v, .int .i64 k, .int .i64 t] w fun e w' => e = .returned (.int .i64 (r8N l k t)) ∧ (0 ≤ r8N l k t ∧ r8N l k t < t) ∧ w = w' := by
  have h1 : ¬ (t : Int) ≤ 1 := by omega
  obtain ⟨A, n, c, rfl, hn, -, hx, hr⟩ := h
  have hml : n ≤ 9223372036854775807 := by unfold maxLen at hx; omega
  by_cases hk : k < n
  · obtain ⟨b, o, rfl, -, -, hc⟩ := hr (by omega)
    have hkl : k < l.length := by omega
    obtain ⟨y, hy, y0, y1⟩ := hb _ (List.getElem_mem hkl)
    have hcj := hc k _ (List.getElem?_eq_getElem hkl)
    rw [hy] at hcj
    have HE : Hid (r8N l k t = y % (t : Int)) := by show _ = _; unfold r8N; rw [List.getElem?_eq_getElem hkl, hy]
    have HR : Hid (0 ≤ y % (t : Int) ∧ y % (t : Int) < t) := ⟨Int.emod_nonneg _ (by omega), Int.emod_lt_of_pos _ (by omega)⟩
    have g1 : ¬ (n : Int) ≤ (k : Int) := by omega
    have g2 : (0 : Int) ≤ (k : Int) := by omega
    have g3 : (k : Int) < (n : Int) := by omega
    have g4 : ((t : Int) == 0) = false := by simp; omega
    have g5 : 0 < (t : Int) := by omega
    have wy : IntKind.i64.wrap y = y := IntWalk.i64_in _ (by omega)
    have wz : IntKind.i64.wrap (y % (t : Int)) = y % (t : Int) := IntWalk.i64_in _ (by have := HR.out; omega)
    rw [HE.out]
    clear hc hn hr hb hy hkl hx HE
    go_enter Try.func28, Try.ntmps28
    go_wp2_with fail
    go_ret
    exact ⟨rfl, HR.out, rfl⟩
  · have HE : Hid (r8N l k t = 0) := by show _ = _; unfold r8N; rw [List.getElem?_eq_none (by omega)]
    have g1 : (n : Int) ≤ (k : Int) := by omega
    rw [HE.out]
    clear hr hn hb hx HE
    go_enter Try.func28, Try.ntmps28
    go_wp2_with fail
    go_ret
    exact ⟨rfl, by omega, rfl⟩

theorem r8At_one (w : World) (v : Value) (l : List Value) (k : Nat) {K : Nat → Prop} (h : RdV K w v l) :
    Calls Try.prog 28 #[v, .int .i64 k, .int .i64 1] w fun e w' => e = .returned (.int .i64 0) ∧ w = w' := by
  obtain ⟨A, n, c, rfl, -⟩ := h
  go_enter Try.func28, Try.ntmps28
  go_wp2_with fail
  go_ret
  exact ⟨rfl, rfl⟩
/-- What is drawn lies below its bound. -/
theorem r8At_is (w : World) (v : Value) (l : List Value) (k t : Nat) (ht : 1 ≤ t ∧ t ≤ 1000000) (h : RdV (· < w.heap.size) w v l) (hb : ∀ x ∈ l, ∃ y : Int, x = .int .u8 y ∧ 0 ≤ y ∧ y ≤ 255) :
    ∃ a : Int, (0 ≤ a ∧ a < t) ∧ ∀ W, Below w.heap.size w W → Calls Try.prog 28 #[v, .int .i64 (k : Int), .int .i64 (t : Int)] W fun e w' => e = .returned (.int .i64 a) ∧ W = w' := by
  by_cases h1 : t = 1
  · subst h1
    exact ⟨0, by omega, fun W hW => r8At_one W v l k (h.keep hW)⟩
  · have h0 : 0 ≤ r8N l k t ∧ r8N l k t < t := by
      unfold r8N
      split <;> (constructor <;> first | omega | exact Int.emod_nonneg _ (by omega) | exact Int.emod_lt_of_pos _ (by omega))
    exact ⟨r8N l k t, h0, fun W hW => (r8At_any W v l k t (by omega) (h.keep hW) hb).mono fun e w' h => ⟨h.1, h.2.2⟩⟩
end Go.Proofs.Ytddlpbpcdjddpaa

namespace Go.Proofs.Ytddlpbpcdjddpaa
open Go Go.RowKit
set_option linter.unusedVariables false
set_option maxRecDepth 100000
/-- A block begins with the bytes in the opposite order. -/
def RevI (l : List Int) (g : Nat) (w : World) : Prop := ∀ t, t < l.length → w.cell? ⟨g, t, none⟩ = some (.int .i64 (l.getD (l.length - 1 - t) 0))
/-- The row with i swaps done from both ends. -/
def swpI (l : List Int) (i t : Nat) : Int := if t < i ∨ l.length ≤ t + i then l.getD (l.length - 1 - t) 0 else l.getD t 0

theorem swpI_step (l : List Int) (n i j : Nat) (hn : l.length = n) (hj : n = i + j + 1) (hij : i < j) (t : Nat) (ht : t < n) :
    swpI l (i + 1) t = if t = i then l.getD j 0 else if t = j then l.getD i 0 else swpI l i t := by
  unfold swpI
  by_cases h1 : t = i
  · subst h1
    rw [if_pos (by omega), if_pos rfl]
    congr 1; omega
  · rw [if_neg h1]
    by_cases h2 : t = j
    · subst h2
      rw [if_pos (by omega), if_pos rfl]
      congr 1; omega
    · rw [if_neg h2]
      by_cases h3 : t < i ∨ l.length ≤ t + i
      · rw [if_pos h3, if_pos (by omega)]
      · rw [if_neg h3, if_neg (by omega)]
theorem swpI_end (l : List Int) (n i : Nat) (hn : l.length = n) (h1 : 2 * i ≤ n) (h2 : n ≤ 2 * i + 1) (t : Nat) (ht : t < n) : swpI l i t = l.getD (l.length - 1 - t) 0 := by
  unfold swpI
  by_cases h : t < i ∨ l.length ≤ t + i
  · rw [if_pos h]
  · rw [if_neg h]
    congr 1; omega
theorem cell_twoI (w : World) (g i j t : Nat) (a b x y z : Value) (hij : ¬ i = j) (hi : w.cell? ⟨g, i, none⟩ = some a) (hj : w.cell? ⟨g, j, none⟩ = some b) (hz : w.cell? ⟨g, t, none⟩ = some z) :
    (((w.setCell ⟨g, i, none⟩ x).setCell ⟨g, j, none⟩ y).drew).cell? ⟨g, t, none⟩ = some (if t = i then x else if t = j then y else z) := by
  show ((w.setCell ⟨g, i, none⟩ x).setCell ⟨g, j, none⟩ y).cell? ⟨g, t, none⟩ = _
  by_cases h2 : t = j
  · subst h2
    rw [if_neg (by omega), if_pos rfl]
    refine World.cell?_setCell_same _ _ _ (u := b) ?_
    rw [World.cell?_setCell_other _ _ _ _ (by intro e; injection e with _ e _; exact hij e)]
    exact hj
  · rw [World.cell?_setCell_other _ _ _ _ (by intro e; injection e with _ e _; exact h2 e.symm)]
    by_cases h1 : t = i
    · subst h1
      rw [if_pos rfl]
      exact World.cell?_setCell_same _ _ _ (u := a) hi
    · rw [if_neg h1, if_neg h2, World.cell?_setCell_other _ _ _ _ (by intro e; injection e with _ e _; exact h1 e.symm)]
      exact hz

set_option maxRecDepth 100000 in
theorem reverseI_any (w : World) (g cap : Nat) (l : List Int) (hl : l.length ≤ 400)
    (hc : ∀ t, t < l.length → w.cell? ⟨g, t, none⟩ = some (.int .i64 (l.getD t 0))) (hf : ∀ t, t < l.length → w.frozen? ⟨g, t, none⟩ = false) :
    Calls Try.prog 83 #[.slice (some ⟨g, 0, none⟩) l.length cap] w fun e w' => e = .returned (.tuple #[]) ∧ RevI l g w' ∧ Below g w w' ∧ w'.heap.size = w.heap.size := by
  generalize hn : l.length = n at hl
  rw [hn] at hc hf
  have HN := Lib.hid hn
  have HC := Lib.hid hc
  have HF := Lib.hid hf
  clear hn hc hf
  go_enter Try.func83, Try.ntmps83
  go_wp2
  go_loopw [2, 3] (fun a b wr => ∃ i : Nat, 2 * i ≤ n ∧ a = .int .i64 i ∧ b = .int .i64 ((n : Int) - 1 - i) ∧ Hid (∀ t, t < n → wr.cell? ⟨g, t, none⟩ = some (.int .i64 (swpI l i t))) ∧ Hid (∀ t, t < n → wr.frozen? ⟨g, t, none⟩ = false) ∧ Below g w wr ∧ wr.heap.size = w.heap.size) (fun a b _ => (intOf b - intOf a + 1).toNat)
  case atStart =>
    refine ⟨0, by omega, rfl, by simp, ?_, HF, Below.refl _ _, rfl⟩
    show ∀ t, t < n → _
    intro t ht
    rw [HC.out t ht]
    have : swpI l 0 t = l.getD t 0 := by unfold swpI; rw [if_neg (by have := HN.out; omega)]
    rw [this]
  case round =>
    obtain ⟨i, hi, rfl, rfl, HCR, HFR, hb, hsz⟩ := hrel
    by_cases hlt : (i : Int) < (n : Int) - 1 - (i : Int)
    · obtain ⟨j, hj⟩ : ∃ j, n = i + j + 1 := ⟨n - i - 1, by omega⟩
      have hidx : (n : Int) - 1 - (i : Int) = (j : Int) := by omega
      rw [hidx] at hlt ⊢
      have hij : i < j := by omega
      have hc1 := HCR.out i (by omega)
      have hc2 := HCR.out j (by omega)
      have hf1 := HFR.out i (by omega)
      have hf2 := HFR.out j (by omega)
      have e1 : swpI l i i = l.getD i 0 := by unfold swpI; rw [if_neg (by have := HN.out; omega)]
      have e2 : swpI l i j = l.getD j 0 := by unfold swpI; rw [if_neg (by have := HN.out; omega)]
      rw [e1] at hc1
      rw [e2] at hc2
      generalize hx : l.getD i 0 = x at hc1
      generalize hy : l.getD j 0 = y at hc2
      have HX := Lib.hid hx
      have HY := Lib.hid hy
      have HJ := Lib.hid hj
      have b1 : (0 : Int) ≤ (i : Int) := by omega
      have b2 : (i : Int) < (n : Int) := by omega
      have b3 : (0 : Int) ≤ (j : Int) := by omega
      have b4 : (j : Int) < (n : Int) := by omega
      have b5 : ¬ i = j := by omega
      have b6 : ¬ j = i := by omega
      have HS := Lib.hid hsz
      have HB := Lib.hid hb
      clear hx hy e1 e2 hj hidx hsz hb
      have HCN : Hid (∀ t, t < n → (((wr.setCell ⟨g, i, none⟩ (.int .i64 y)).setCell ⟨g, j, none⟩ (.int .i64 x)).drew).cell? ⟨g, t, none⟩ = some (.int .i64 (swpI l (i + 1) t))) := by
        show ∀ t, t < n → _
        intro t ht
        rw [cell_twoI wr g i j t _ _ _ _ _ b5 hc1 hc2 (HCR.out t ht), swpI_step l n i j HN.out HJ.out hij t ht, HX.out, HY.out]
        by_cases h1 : t = i
        · rw [if_pos h1, if_pos h1]
        · rw [if_neg h1, if_neg h1]
          by_cases h2 : t = j
          · rw [if_pos h2, if_pos h2]
          · rw [if_neg h2, if_neg h2]
      have HFN : Hid (∀ t, t < n → (((wr.setCell ⟨g, i, none⟩ (.int .i64 y)).setCell ⟨g, j, none⟩ (.int .i64 x)).drew).frozen? ⟨g, t, none⟩ = false) := by
        show ∀ t, t < n → _
        intro t ht
        show ((wr.setCell ⟨g, i, none⟩ (.int .i64 y)).setCell ⟨g, j, none⟩ (.int .i64 x)).frozen? ⟨g, t, none⟩ = false
        rw [World.frozen?_setCell, World.frozen?_setCell]
        exact HFR.out t ht
      go_wp2_with fail
      go_region
      all_goals
        go_wp2_with fail
        go_roundw
        case rel => exact ⟨i + 1, by have := HJ.out; omega, by go_num, congrArg (Value.int .i64) (by have := HJ.out; omega), HCN, HFN, ((HB.out.setCell (Nat.le_refl _) _).setCell (Nat.le_refl _) _).drew, by have := HS.out; simpa [World.setCell, World.drew] using this⟩
        case measure => have := HJ.out; simp [intOf]; omega
    · have hfin : Hid (RevI l g wr) := by
        show RevI l g wr
        intro t ht
        rw [HN.out] at ht
        rw [HCR.out t ht, swpI_end l n i HN.out hi (by omega) t ht]
      have HS := Lib.hid hsz
      have HB := Lib.hid hb
      clear hsz hb
      go_wp2_with fail
      go_end0
      exact ⟨rfl, hfin.out, HB.out, HS.out⟩

end Go.Proofs.Ytddlpbpcdjddpaa

namespace Go.Proofs.Ytddlpbpcdjddpaa
open Go Go.RowKit
set_option linter.unusedVariables false
theorem own_ofI {w : World} {base : Nat} {v : Value} {l : List Int} {n : Nat} {xs : List Value} (h : w.ownsRow base 2 1 v n xs) (h1 : n = l.length) (h2 : xs = intVals l) : Own w base v l := by subst h1; subst h2; exact h
theorem below_ints {B base n : Nat} {w wr w1 : World} {e : TypeId} {v : Value} {xs : List Value} {o : Obj} (hb : Below B w wr) (hB : base ≤ wr.heap.size) (hB2 : B ≤ base) (hown : wr.ownsRow base e 1 v n xs) (hg : (wr.alloc o).grownBy w1 v.ownBlock) : Below B w w1 :=
  (hb.alloc (Nat.le_trans hB2 hB) _).grown hg (by simp; omega) (fun k hk => Nat.le_trans hB2 (World.ownsRow.lt hown k hk).1)
theorem rev_at (l : List Int) (t : Nat) (h : t < l.length) : l.reverse[t]'(by simpa using h) = l.getD (l.length - 1 - t) 0 := by
  rw [List.getElem_reverse, List.getD, List.getElem?_eq_getElem (by omega)]; rfl
theorem trL_take (l : List Int) (k : Nat) (hk : k + 1 < l.length) : (trL l).take (k + 2) = (trL l).take (k + 1) ++ [wid l - l[k]] := by
  have hl := trL_len l (by omega)
  rw [List.take_succ_eq_append_getElem (show k + 1 < (trL l).length by omega)]
  congr 1
  have h1 := trL_get l (k + 1) (by omega)
  rw [if_neg (by omega), getD_mem (k + 1) (by omega), Nat.add_sub_cancel, getD_mem k (by omega)] at h1
  rw [h1]

set_option maxRecDepth 100000 in
set_option maxHeartbeats 1000000 in
theorem turned_any (w : World) (v : Value) (l : List Int) (ht : tpOk l = true) (h : Rd w v l) :
    Calls Try.prog 58 #[v] w fun e w' => ∃ v', e = .returned v' ∧ Rd w' v' (trn l) ∧ Below w.heap.size w w' := by
  obtain ⟨i0, hi, hz0, hz1, hz2⟩ := info_parts Try.infoInt
  obtain ⟨h0, hinc, hr⟩ := tpOk_parts ht
  have hlen := tp_len hinc hr
  have hW := tpOk_wid ht
  have HTK := Lib.hid (fun k hk => trL_take l k hk)
  have HTL := Lib.hid (trL_len l h0)
  have HDM : Hid (∀ k (hk : k + 1 < l.length), 1 ≤ l[k] ∧ l[k] ≤ 16) := by
    show ∀ _ _, _
    intro k hk
    have := tpOk_le ht k (by omega)
    omega
  have HWD := Lib.hid (widthOf_any w v l h0 h)
  have HT1 : Hid ((trL l).take (0 + 1) = [wid l]) := rfl
  have HRD := Lib.hid h
  obtain ⟨A, c, rfl⟩ := rd_shp h
  obtain ⟨n, hn⟩ : ∃ n, n = l.length := ⟨_, rfl⟩
  rw [← hn] at HRD HWD hlen h0 HTL ⊢
  have HN := Lib.hid hn
  clear h ht hinc hr hn
  have hc : (n : Int) ≤ (c : Int) := by
    obtain ⟨A', n', c', e, hn, h1, -, -⟩ := HRD.out
    injection e with e1 e2 e3
    omega
  have hm1 : (0 : Int) ≤ (n : Int) - 1 := by omega
  have hm2 : (n : Int) - 1 ≤ (n : Int) := by omega
  have hm3 : (n : Int) - 1 ≤ (c : Int) := by omega
  have hm4 : ((n : Int) - 1).toNat = n - 1 := by omega
  have hm5 : ((n - 1 : Nat) : Int) = (n : Int) - 1 := by omega
  have hw0 : IntKind.i64.wrap ((n : Int) - 1) = (n : Int) - 1 := IntWalk.i64_in _ (by omega)
  go_enter Try.func58, Try.ntmps58
  go_wp2_with fail
  refine HWD.out.mono ?_; rintro e w1 ⟨rfl, q, rfl⟩
  have HR1 := Lib.hid (HRD.out.drewN q)
  have HB1 : Hid (Below w.heap.size w (w.drewN q)) := below_drewN (Below.refl _ _) q
  generalize w.drewN q = W1 at *
  have HOW : Hid (Own (W1.alloc (.cells #[.int .i64 (wid l)] 2)) W1.heap.size (.slice (some ⟨W1.heap.size, 0, none⟩) 1 1) ((trL l).take (0 + 1))) := by
    show Own _ _ _ _
    rw [HT1.out]
    show World.ownsRow _ _ 2 1 _ 1 (intVals [wid l])
    exact ⟨by simp [intVals], .inr ⟨W1.heap.size, 1, #[.int .i64 (wid l)], rfl, Nat.le_refl _, heap_alloc_new W1 _, Nat.le_refl _, by decide, rfl, by simp [intVals]⟩⟩
  generalize wid l = Wd at *
  clear HRD HWD
  go_wp2_with fail
  go_loopw [4, 17] (fun v i wr => ∃ k : Nat, k ≤ n - 1 ∧ i = .int .i64 k ∧ Own wr W1.heap.size v ((trL l).take (k + 1)) ∧ Below W1.heap.size W1 wr) (fun _ i _ => n - (intOf i).toNat)
  case atStart => exact ⟨0, by omega, rfl, HOW.out, (Below.refl _ _).alloc (Nat.le_refl _) _⟩
  case round =>
    obtain ⟨k, hk, rfl, hown, hbw⟩ := hrel
    by_cases hlt : k + 1 < n
    · have hr := HR1.out.keep hbw
      obtain ⟨A', n', c', e', hn', -, -, r⟩ := hr
      injection e' with e1 e2 e3
      subst e1; subst e2; subst e3
      obtain ⟨b, o, rfl, hlt0, hcc⟩ := r (by omega)
      have hkl : k < l.length := by have := HN.out; omega
      have hc0 := hcc k hkl
      have hk0 : (0 : Int) ≤ (k : Int) := by omega
      have hk1 : (k : Int) < (n : Int) - 1 := by omega
      have hT := HTK.out k (by have := HN.out; omega)
      have hy16 := HDM.out k (by have := HN.out; omega)
      obtain ⟨y, hy⟩ : ∃ y, l[k] = y := ⟨_, rfl⟩
      rw [hy] at hc0 hT hy16
      have HT2 := Lib.hid hT
      have hlen2 : ((trL l).take (k + 1)).length = k + 1 := by rw [List.length_take, HTL.out]; omega
      have hw1 : IntKind.i64.wrap (Wd - y) = Wd - y := IntWalk.i64_in _ (by omega)
      clear r hn' hcc hT hy
      go_wp2_with (at_builtin; refine wpList_append_own _ rfl _ _ 22 rfl W1.heap.size 2 i0 (.int .i64 0) 1 8 Try.underlying22 hi hz0 hz1 hz2 rfl (by decide) _ _ _ rfl (hown.alloc _) ⟨wr.heap.size, 0, none⟩ 1 1 [.int .i64 (Wd - y)] rfl rfl ?c1 ?c2 ?c3 ?c4 ?c5 ?_)
      case c1 => exact cell_one_new _ _ _
      case c2 => intro u hu; simp at hu; subst hu; rfl
      case c3 => rw [hlen2]; unfold maxLen; omega
      case c4 => rw [hlen2]; omega
      case c5 => have := hbw.size; simp at this ⊢; omega
      intro v1 w1 hown1 hgrow1 _
      have hb1 := below_ints hbw hbw.size (Nat.le_refl _) hown hgrow1
      have ho1 : Own w1 W1.heap.size v1 ((trL l).take (k + 2)) := by
        refine own_ofI hown1 ?_ ?_
        · rw [HT2.out, List.length_append, hlen2]; rfl
        · rw [HT2.out]; simp [intVals]
      clear hown hgrow1 hown1 hc0
      go_wp2_with fail
      go_roundw
      case rel => exact ⟨k + 1, by omega, by go_num, ho1, hb1⟩
      case measure => simp [intOf]; omega
    · obtain rfl : k = n - 1 := by omega
      have hfull : (trL l).take (n - 1 + 1) = trL l := List.take_of_length_le (by rw [HTL.out]; omega)
      rw [hfull] at hown
      rcases hown.2 with ⟨rfl, h0'⟩ | ⟨g, cap, cur, rfl, hg1, hg, hg2, hg3, hg4, hg5⟩
      · rw [HTL.out] at h0'; omega
      · have HRV := Lib.hid (reverseI_any wr g cap (trL l) (by rw [HTL.out]; omega) (fun t ht => by
          have := (World.ownsRow.cellAt (w := wr) (base := W1.heap.size) hown t (by omega)).trans (intVals_at (trL l) t ht)
          rw [this, getD_mem t ht]) (fun t _ => Lib.frozen_of_heap hg t))
        have hglt : g < wr.heap.size := by
          rcases Nat.lt_or_ge g wr.heap.size with h' | h'
          · exact h'
          · rw [Array.getElem?_eq_none h'] at hg; cases hg
        rw [HTL.out] at HRV hg2 ⊢
        have HBW := Lib.hid hbw
        clear hown hfull hbw hg hg4 hg5
        go_wp2_with fail
        refine HRV.out.mono ?_; rintro e w2 ⟨rfl, hrv, hb2, hsz⟩
        have HRV2 := Lib.hid hrv
        have HB2 := Lib.hid hb2
        have HSZ := Lib.hid hsz
        clear hrv hb2 hsz
        go_wp2_with fail
        go_ret
        refine ⟨_, rfl, ⟨_, n, cap, rfl, ?_, hg2, hg3, fun _ => ⟨g, 0, rfl, by have := HSZ.out; omega, fun i hi => ?_⟩⟩, HB1.out.trans ((HBW.out.trans (HB2.out.mono hg1)).mono HB1.out.size)⟩
        · rw [trn_len l (by have := HN.out; omega)]; exact HN.out.symm
        · have hi' : i < (trL l).length := by simpa [trn] using hi
          rw [Nat.zero_add, HRV2.out i hi']
          exact congrArg (fun x => some (Value.int .i64 x)) (rev_at (trL l) i hi').symm
end Go.Proofs.Ytddlpbpcdjddpaa

namespace Go.Proofs.Ytddlpbpcdjddpaa
open Go Go.RowKit
set_option linter.unusedVariables false
theorem fkV_no {l : List Int} {a b : List UInt8} (h : fkOk l a b = false) : fkV l a b = ⟨#[]⟩ := by unfold fkV; rw [h]; rfl
theorem fkV_yes {l : List Int} {a b : List UInt8} (h : fkOk l a b = true) : fkV l a b = ⟨(tx (fkS l a b)).toArray⟩ := by unfold fkV; rw [h]; rfl
theorem ba_list (l : List UInt8) : (⟨l.toArray⟩ : ByteArray).data.toList = l := rfl
theorem ba_size (l : List UInt8) : (⟨l.toArray⟩ : ByteArray).size = l.length := rfl

theorem str_neF {a b : ByteArray} (h : a ≠ b) : (a.toList == b.toList) = false := by
  rw [← beq_toListBytes]
  cases e : (a == b)
  · rfl
  · refine absurd ?_ h
    cases a with | mk a => cases b with | mk b =>
    have h2 : (a == b) = true := e
    exact congrArg ByteArray.mk (eq_of_beq h2)


set_option maxRecDepth 100000 in
set_option maxHeartbeats 1000000 in
theorem findKey_impl (w : World) (v : Value) (l : List Int) (a b : ByteArray) (hb : ∀ n ∈ l, -9223372036854775808 ≤ n ∧ n ≤ 9223372036854775807) (ha : a.size ≤ maxLen) (hb2 : b.size ≤ maxLen) (h : Rd w v l) :
    Calls Try.prog 23 #[v, .string a, .string b] w fun e w' =>
      e = .returned (.tuple #[.string (fkV l a.data.toList b.data.toList), .bool (fkOk l a.data.toList b.data.toList)]) ∧ Below w.heap.size w w' := by
  have hE : fkOk l a.data.toList b.data.toList = (fkIn l a.data.toList b.data.toList && decide (fkG l a.data.toList b.data.toList = fkK a.data.toList b.data.toList)) := rfl
  have hI : fkIn l a.data.toList b.data.toList = (tpOk l && (xorOk a.data.toList b.data.toList && decide (wid l ≤ (a.data.toList.length : Int)))) := rfl
  have hsz : a.data.toList.length = a.size := by simp
  have hsb : b.data.toList.length = b.size := by simp
  by_cases hx : isB a.data.toList = true ∧ isB b.data.toList = true ∧ a.size = b.size
  · obtain ⟨x1, x2, x3⟩ := hx
    have hxo : xorOk a.data.toList b.data.toList = true := by
      unfold xorOk
      rw [x1, x2, decide_eq_true (show a.data.toList.length = b.data.toList.length by omega)]; rfl
    have HX := Lib.hid (xor_yes_impl a b w x1 x2 x3)
    have HAT := Lib.hid (fun W h => areTaps_any W v l hb h)
    have HRD := Lib.hid h
    have hKe : xorB a.data.toList b.data.toList a.size = fkK a.data.toList b.data.toList := by unfold fkK; rw [hsz]
    rw [hKe] at HX
    have hn4 : a.size ≤ 400 := by have := (isB_r x1).1; omega
    have hKl : (fkK a.data.toList b.data.toList).length = a.size := by unfold fkK; rw [xorB_length, hsz]
    rw [hxo, Bool.true_and, hsz] at hI
    obtain ⟨A, c, rfl⟩ := rd_shp h
    obtain ⟨n1, hn1⟩ : ∃ n1, n1 = l.length := ⟨_, rfl⟩
    rw [← hn1] at HRD HAT ⊢
    cases ht : tpOk l
    · rw [ht, Bool.false_and] at hI
      rw [hI, Bool.false_and] at hE
      rw [fkV_no hE, hE]
      rw [ht] at HAT
      have hZs : (⟨(fkK a.data.toList b.data.toList).toArray⟩ : ByteArray).size = a.size := hKl
      generalize (⟨(fkK a.data.toList b.data.toList).toArray⟩ : ByteArray) = Z at *
      clear h hE hI hsz hsb x1 x2 x3 hxo hKe hKl hb hn1
      go_enter Try.func23, Try.ntmps23
      go_wp2_with fail
      refine HX.out.mono ?_; rintro e w1 ⟨rfl, hb1⟩
      have HB1 := Lib.hid hb1
      have HR1 := Lib.hid (HRD.out.keep hb1)
      clear hb1
      go_wp2_with fail
      refine (HAT.out _ HR1.out).mono ?_; rintro e w2 ⟨rfl, q, rfl⟩
      go_wp2_with fail
      go_ret2
      exact ⟨rfl, below_drewN HB1.out q⟩
    · rw [ht, Bool.true_and] at hI
      rw [ht] at HAT
      have h0 := (tpOk_parts ht).1
      have HWD := Lib.hid (fun W h => widthOf_any W (.slice A n1 c) l h0 h)
      have HTN := Lib.hid (fun W h => turned_any W (.slice A n1 c) l ht h)
      have hw := tpOk_wid ht
      by_cases hle : wid l ≤ (a.size : Int)
      · rw [decide_eq_true hle] at hI
        rw [hI, Bool.true_and] at hE
        obtain ⟨m1, m2, m3, m4, m5, m6, m7, m8, m9, m10, m11, m12⟩ := fk_facts hI
        obtain ⟨f1, f2⟩ := fk_first hI
        have htn := trn_ok ht
        have hbn : ∀ n ∈ trn l, -9223372036854775808 ≤ n ∧ n ≤ 9223372036854775807 := fun n hn => by
          obtain ⟨k, hk, rfl⟩ := List.getElem_of_mem hn
          have := tpR_at (tpOk_parts htn.1).2.2 k hk
          omega
        obtain ⟨Z, hZ⟩ : ∃ Z : ByteArray, Z = ⟨(fkK a.data.toList b.data.toList).toArray⟩ := ⟨_, rfl⟩
        obtain ⟨Y, hY⟩ : ∃ Y : ByteArray, Y = ⟨(tx (fkS l a.data.toList b.data.toList)).toArray⟩ := ⟨_, rfl⟩
        obtain ⟨X, hX⟩ : ∃ X : ByteArray, X = ⟨(fkG l a.data.toList b.data.toList).toArray⟩ := ⟨_, rfl⟩
        have hZs : Z.size = a.size := by rw [hZ]; exact hKl
        have hZl : Z.data.toList = fkK a.data.toList b.data.toList := by rw [hZ]
        have hex : (Z.extract 0 (fkW l)).data.toList = (fkK a.data.toList b.data.toList).take (fkW l) := by
          rw [← hZl, ByteArray.data_extract, Array.toList_extract]
          simp
        have HK1 : Hid (∀ W' v', Rd W' v' (trn l) → Calls Try.prog 33 #[.agg #[v', .string (Z.extract 0 (fkW l))], .int .i64 (fkW l : Nat)] W' fun e w' => e = .returned (.tuple #[.string Y, .bool true]) ∧ Below W'.heap.size W' w') := by
          show ∀ _ _, _
          intro W' v' hr
          have := keyBits_impl W' v' (trn l) (Z.extract 0 (fkW l)) (wid l) hbn (by rw [ByteArray.size_extract]; unfold maxLen; omega) hr
          rw [hex, f1, kyV_yes f1, f2, ← hY, ← m8] at this
          exact this
        have HK2 : Hid (∀ W', Rd W' (.slice A n1 c) l → Calls Try.prog 33 #[.agg #[.slice A n1 c, .string Y], .int .i64 (a.size : Nat)] W' fun e w' => e = .returned (.tuple #[.string X, .bool true]) ∧ Below W'.heap.size W' w') := by
          show ∀ _, _
          intro W' hr
          have hYl : Y.data.toList = tx (fkS l a.data.toList b.data.toList) := by rw [hY]
          have hky : kyOk l (tx (fkS l a.data.toList b.data.toList)) (a.size : Nat) = true := by
            unfold kyOk
            rw [m5, decide_eq_true (show (0 : Int) ≤ (a.size : Int) ∧ (a.size : Int) ≤ 400 by omega)]; rfl
          have := keyBits_impl W' (.slice A n1 c) l Y (a.size : Nat) hb (by rw [hY, ba_size, tx_len, m3]; unfold maxLen; omega) hr
          rw [hYl, hky, kyV_yes hky] at this
          have e : kyL l (tx (fkS l a.data.toList b.data.toList)) (a.size : Nat) = fkG l a.data.toList b.data.toList := by
            unfold kyL fkG
            rw [Int.toNat_natCast, hsz]
          rw [e, ← hX] at this
          exact this
        rw [← hZ] at HX
        by_cases hfk : fkG l a.data.toList b.data.toList = fkK a.data.toList b.data.toList
        · rw [decide_eq_true hfk] at hE
          rw [fkV_yes hE, hE, ← hY]
          obtain rfl : X = Z := by rw [hX, hZ, hfk]
          rw [← m8] at HWD hle hw
          generalize fkW l = W at *
          clear h hE hI hsz hsb x1 x2 x3 hxo hKe hKl hb hn1 ht h0 m1 m2 m3 m4 m5 m6 m7 m8 m12 f1 f2 htn hbn hZ hY hX hZl hex hfk
          go_enter Try.func23, Try.ntmps23
          go_wp2_with fail
          refine HX.out.mono ?_; rintro e w1 ⟨rfl, hb1⟩
          have HB1 := Lib.hid hb1
          have HR1 := Lib.hid (HRD.out.keep hb1)
          clear hb1
          go_wp2_with fail
          refine (HAT.out _ HR1.out).mono ?_; rintro e w2 ⟨rfl, q, rfl⟩
          have HB2 := Lib.hid (below_drewN HB1.out q)
          have HR2 := Lib.hid (HR1.out.drewN q)
          generalize w1.drewN q = w2 at *
          go_wp2_with fail
          refine (HWD.out _ HR2.out).mono ?_; rintro e w3 ⟨rfl, q3, rfl⟩
          have HB3 := Lib.hid (below_drewN HB2.out q3)
          have HR3 := Lib.hid (HR2.out.drewN q3)
          generalize w2.drewN q3 = w3 at *
          go_wp2_with fail
          refine (HWD.out _ HR3.out).mono ?_; rintro e w4 ⟨rfl, q4, rfl⟩
          have HB4 := Lib.hid (below_drewN HB3.out q4)
          have HR4 := Lib.hid (HR3.out.drewN q4)
          generalize w3.drewN q4 = w4 at *
          go_wp2_with fail
          have HR5 : Hid (Rd w4.drew (.slice A n1 c) l) := HR4.out.keep (Below.refl w4.heap.size w4).drew
          have HB5 : Hid (Below w.heap.size w w4.drew) := HB4.out.drew
          have hS5 : w.heap.size ≤ w4.drew.heap.size := HB5.out.size
          have hs1 : (0 : Int) ≤ (W : Int) := by omega
          have hs2 : (W : Int) ≤ (X.size : Int) := by omega
          have hs3 : (W : Int).toNat = W := by omega
          go_region_with (first
            | (go_at_call 58; refine (HTN.out _ HR5.out).mono ?_; rintro e w5 ⟨v5, rfl, hr5, hb5⟩; obtain ⟨A5, c5, rfl⟩ := rd_shp hr5; have HT5 := Lib.hid hr5; have HB6 := Lib.hid (HB5.out.trans (hb5.mono hS5)); have HR6 := Lib.hid (HR5.out.keep hb5); clear hr5 hb5; generalize (trn l).length = L5 at *)
            | (go_at_call 33; refine (HK1.out _ _ HT5.out).mono ?_; rintro e w6 ⟨rfl, hb6⟩; have HB7 := Lib.hid (HB6.out.trans (hb6.mono HB6.out.size)); have HR7 := Lib.hid (HR6.out.keep hb6); clear hb6))
          all_goals
            clear HTN HK1 HAT HWD HX HT5
            go_wp2_with fail
            refine (HK2.out _ HR7.out).mono ?_; rintro e w8 ⟨rfl, hb8⟩
            have HB8 := Lib.hid (HB7.out.trans (hb8.mono HB7.out.size))
            clear hb8
            go_wp2_with fail
            go_ret2
            exact ⟨rfl, HB8.out⟩
        · rw [decide_eq_false hfk] at hE
          rw [fkV_no hE, hE]
          have hXZ : X ≠ Z := fun e => hfk (by rw [← ba_list (fkG _ _ _), ← hX, e, hZl])
          rw [← m8] at HWD hle hw
          generalize fkW l = W at *
          have HXZ := Lib.hid hXZ
          clear h hXZ hE hI hsz hsb x1 x2 x3 hxo hKe hKl hb hn1 ht h0 m1 m2 m3 m4 m5 m6 m7 m8 m12 f1 f2 htn hbn hZ hY hX hZl hex hfk
          go_enter Try.func23, Try.ntmps23
          go_wp2_with fail
          refine HX.out.mono ?_; rintro e w1 ⟨rfl, hb1⟩
          have HB1 := Lib.hid hb1
          have HR1 := Lib.hid (HRD.out.keep hb1)
          clear hb1
          go_wp2_with fail
          refine (HAT.out _ HR1.out).mono ?_; rintro e w2 ⟨rfl, q, rfl⟩
          have HB2 := Lib.hid (below_drewN HB1.out q)
          have HR2 := Lib.hid (HR1.out.drewN q)
          generalize w1.drewN q = w2 at *
          go_wp2_with fail
          refine (HWD.out _ HR2.out).mono ?_; rintro e w3 ⟨rfl, q3, rfl⟩
          have HB3 := Lib.hid (below_drewN HB2.out q3)
          have HR3 := Lib.hid (HR2.out.drewN q3)
          generalize w2.drewN q3 = w3 at *
          go_wp2_with fail
          refine (HWD.out _ HR3.out).mono ?_; rintro e w4 ⟨rfl, q4, rfl⟩
          have HB4 := Lib.hid (below_drewN HB3.out q4)
          have HR4 := Lib.hid (HR3.out.drewN q4)
          generalize w3.drewN q4 = w4 at *
          go_wp2_with fail
          have HR5 : Hid (Rd w4.drew (.slice A n1 c) l) := HR4.out.keep (Below.refl w4.heap.size w4).drew
          have HB5 : Hid (Below w.heap.size w w4.drew) := HB4.out.drew
          have hS5 : w.heap.size ≤ w4.drew.heap.size := HB5.out.size
          have hs1 : (0 : Int) ≤ (W : Int) := by omega
          have hs2 : (W : Int) ≤ (Z.size : Int) := by omega
          have hs3 : (W : Int).toNat = W := by omega
          go_region_with (first
            | (go_at_call 58; refine (HTN.out _ HR5.out).mono ?_; rintro e w5 ⟨v5, rfl, hr5, hb5⟩; obtain ⟨A5, c5, rfl⟩ := rd_shp hr5; have HT5 := Lib.hid hr5; have HB6 := Lib.hid (HB5.out.trans (hb5.mono hS5)); have HR6 := Lib.hid (HR5.out.keep hb5); clear hr5 hb5; generalize (trn l).length = L5 at *)
            | (go_at_call 33; refine (HK1.out _ _ HT5.out).mono ?_; rintro e w6 ⟨rfl, hb6⟩; have HB7 := Lib.hid (HB6.out.trans (hb6.mono HB6.out.size)); have HR7 := Lib.hid (HR6.out.keep hb6); clear hb6))
          all_goals
            clear HTN HK1 HAT HWD HX HT5
            go_wp2_with fail
            refine (HK2.out _ HR7.out).mono ?_; rintro e w8 ⟨rfl, hb8⟩
            have HB8 := Lib.hid (HB7.out.trans (hb8.mono HB7.out.size))
            clear hb8
            have hne := str_neF HXZ.out
            go_wp2_with fail
            go_ret2
            exact ⟨rfl, HB8.out⟩
      · rw [decide_eq_false hle] at hI
        rw [hI, Bool.false_and] at hE
        rw [fkV_no hE, hE]
        have hZs : (⟨(fkK a.data.toList b.data.toList).toArray⟩ : ByteArray).size = a.size := hKl
        generalize (⟨(fkK a.data.toList b.data.toList).toArray⟩ : ByteArray) = Z at *
        generalize wid l = Wd at *
        clear h hE hI hsz hsb x1 x2 x3 hxo hKe hKl hb hn1 HTN ht h0
        go_enter Try.func23, Try.ntmps23
        go_wp2_with fail
        refine HX.out.mono ?_; rintro e w1 ⟨rfl, hb1⟩
        have HB1 := Lib.hid hb1
        have HR1 := Lib.hid (HRD.out.keep hb1)
        clear hb1
        go_wp2_with fail
        refine (HAT.out _ HR1.out).mono ?_; rintro e w2 ⟨rfl, q, rfl⟩
        have HB2 := Lib.hid (below_drewN HB1.out q)
        have HR2 := Lib.hid (HR1.out.drewN q)
        generalize w1.drewN q = w2 at *
        have hlt : (a.size : Int) < Wd := by omega
        go_wp2_with fail
        refine (HWD.out _ HR2.out).mono ?_; rintro e w3 ⟨rfl, q3, rfl⟩
        go_wp2_with fail
        go_ret2
        exact ⟨rfl, below_drewN HB2.out q3⟩
  · have hxo : xorOk a.data.toList b.data.toList = false := by
      rw [Bool.eq_false_iff]
      intro hc
      unfold xorOk at hc
      simp only [Bool.and_eq_true, decide_eq_true_eq] at hc
      exact hx ⟨hc.1.1, hc.1.2, by omega⟩
    have HX := Lib.hid (xor_no_impl a b w ha hb2 hx)
    rw [hxo, Bool.false_and, Bool.and_false] at hI
    rw [hI, Bool.false_and] at hE
    rw [fkV_no hE, hE]
    clear hE hI hx hxo hsz hsb
    go_enter Try.func23, Try.ntmps23
    go_wp2_with fail
    refine HX.out.mono ?_; rintro e w1 ⟨rfl, hb1⟩
    have HB1 := Lib.hid hb1
    clear hb1
    go_wp2_with fail
    go_ret2
    exact ⟨rfl, HB1.out⟩
end Go.Proofs.Ytddlpbpcdjddpaa

namespace Go.Proofs.Ytddlpbpcdjddpaa
open Go Go.RowKit
set_option linter.unusedVariables false

theorem rdv_keepK {w w' : World} {v : Value} {l : List Value} (h : RdV (· < w.heap.size) w v l) (hb : Below w.heap.size w w') : RdV (· < w'.heap.size) w' v l := by
  obtain ⟨A, n, c, e, hn, h1, h2, h3⟩ := h.keep hb
  refine ⟨A, n, c, e, hn, h1, h2, fun h0 => ?_⟩
  obtain ⟨b, o, ea, hK, hlt, hc⟩ := h3 h0
  exact ⟨b, o, ea, hlt, hlt, hc⟩
theorem sb_two {W : World} {k : Nat} {u : Value} {s : ByteArray} (h : Bk W k [u, .string s]) : W.cell? ⟨k, 0, none⟩ = some u ∧ W.cell? ⟨k, 1, none⟩ = some (.string s) := ⟨h.c 0 _ rfl, h.c 1 _ rfl⟩
theorem ba_eta (s : ByteArray) : (⟨s.data.toList.toArray⟩ : ByteArray) = s := ByteArray.ext (by simp)
theorem zs_const : (⟨(zsT 20).toArray⟩ : ByteArray) = ⟨#[48, 48, 48, 48, 48, 48, 48, 48, 48, 48, 48, 48, 48, 48, 48, 48, 48, 48, 48, 48]⟩ := rfl

theorem plain_ok {M : List UInt8} {G : ByteArray} (hG : G = ⟨M.toArray⟩ ++ ⟨#[49, 48, 49, 48, 49, 48, 49]⟩) (hM : M.length ≤ 20) (hin : inR 48 49 M = true) : isB G.data.toList = true ∧ 7 ≤ G.data.toList.length ∧ G.size ≤ maxLen := by
  have e : G.data.toList = M ++ [49, 48, 49, 48, 49, 48, 49] := by rw [hG, ByteArray.mk_append_mk]
  have l : G.data.toList.length = G.size := rfl
  have h7 : G.data.toList.length = M.length + 7 := by rw [e]; simp
  refine ⟨?_, by omega, by unfold maxLen; omega⟩
  unfold isB
  rw [decide_eq_true (by omega : G.data.toList.length ≤ 400), e]
  unfold inR at *
  rw [List.all_append, hin]; decide
theorem key_row {L : List Int} {s G : ByteArray} (h : scOk L s.data.toList = true) (hg : isB G.data.toList = true) (hw : wid L ≤ (G.data.toList.length : Int)) : ∃ A : ByteArray, adV L s.data.toList G.data.toList = A ∧ scbOk L s.data.toList G.data.toList = true ∧ fkV L A.data.toList G.data.toList = s ∧ fkOk L A.data.toList G.data.toList = true ∧ A.size ≤ maxLen := by
  have e1 : scbOk L s.data.toList G.data.toList = true := by unfold scbOk; rw [h, hg]; rfl
  obtain ⟨f1, f2⟩ := found_ok h hg hw
  have e0 := adV_yes e1
  have f3 := (fkIn_parts (found_key h hg hw).1).2.1
  generalize adL L s.data.toList G.data.toList = T at *
  refine ⟨⟨T.toArray⟩, e0, e1, ?_, f1, ?_⟩
  · show fkV L T G.data.toList = s
    rw [f2, ba_eta]
  · have := (isB_r f3).1
    show T.toArray.size ≤ maxLen
    rw [List.size_toArray]
    unfold maxLen; omega
theorem worst_row {L : List Int} {s : ByteArray} (h : scOk L s.data.toList = true) : ∃ G : ByteArray, wbOk L s.data.toList 20 = true ∧ wbV L s.data.toList 20 = G ∧ scbOk L s.data.toList G.data.toList = true ∧ scbV false L s.data.toList G.data.toList = ⟨#[48, 48, 48, 48, 48, 48, 48, 48, 48, 48, 48, 48, 48, 48, 48, 48, 48, 48, 48, 48]⟩ ∧ G.size ≤ maxLen := by
  obtain ⟨z1, z2, z3⟩ := worst_zero h
  have e0 := wbV_yes z1
  rw [show (20 : Int).toNat = 20 from rfl] at e0
  generalize scbL true L s.data.toList (zsT 20) = T at *
  refine ⟨⟨T.toArray⟩, z1, e0, z2, ?_, ?_⟩
  · show scbV false L s.data.toList T = _
    rw [scbV_yes z2, z3, zs_const]
  · have := (isB_r (Bool.and_eq_true_iff.1 z2).2).1
    show T.toArray.size ≤ maxLen
    rw [List.size_toArray]
    unfold maxLen; omega

set_option maxHeartbeats 8000000 in
set_option maxRecDepth 100000 in
theorem law_FnKeys (v0 : Value) (l0 : List Value) (k0 : ∀ x ∈ l0, ∃ y : Int, x = .int .u8 y ∧ 0 ≤ y ∧ y ≤ 255) (v1 : Value) (l1 : List Value) (k1 : ∀ x ∈ l1, ∃ y : Int, x = .int .u8 y ∧ 0 ≤ y ∧ y ≤ 255) (w : World) (r0 : RdV (· < w.heap.size) w v0 l0) (r1 : RdV (· < w.heap.size) w v1 l1) :
    Calls Try.prog 9 #[v0, v1] w fun e w' => e = .returned (.bool true) ∧ Below w.heap.size w w' := by
  have HR0 := Lib.hid r0
  have HR1 := Lib.hid r1
  have HK0 := Lib.hid k0
  have HK1 := Lib.hid k1
  obtain ⟨A0, n0, c0, rfl, hn0, -⟩ := r0
  obtain ⟨A1, n1, c1, rfl, hn1, -⟩ := r1
  clear k0 k1 hn0 hn1
  have HL := Lib.hid (fun W => r8Long_any W A0 A1 n0 c0 n1 c1)
  by_cases hz : 48 < n0 ∨ 48 < n1
  · have hz' : (decide (48 < n0) || decide (48 < n1)) = true := by rcases hz with h | h <;> simp [h]
    rw [hz'] at HL
    clear hz hz'
    go_enter Try.func9, Try.ntmps9
    go_wp2_with fail
    refine (HL.out _).mono ?_; rintro e w1 ⟨rfl, q, rfl⟩
    go_wp2_with fail
    go_ret
    exact ⟨rfl, below_drewN (Below.refl _ _) q⟩
  · have hz' : (decide (48 < n0) || decide (48 < n1)) = false := by simp; omega
    rw [hz'] at HL
    clear hz hz'
    go_enter Try.func9, Try.ntmps9
    go_wp2_with fail
    refine (HL.out _).mono ?_; rintro e w1 ⟨rfl, q, rfl⟩
    have B1 : Hid (Below w.heap.size w (w.drewN q)) := below_drewN (Below.refl _ _) q
    go_wp2_with fail
    refine (r8Scrambler_any _ _ _ (rdv_keepK HR0.out B1.out) HK0.out).mono ?_; rintro e w2 ⟨u, s, L, rfl, ⟨hsc, hw7⟩, ho2, hb2⟩
    obtain ⟨Au, cu, rfl⟩ := own_shape ho2
    obtain ⟨w3, hw3⟩ : ∃ w3, w3 = w2.alloc (.cells #[.slice Au L.length cu, .string s] 28) := ⟨_, rfl⟩
    have k3 : Below w2.heap.size w2 w3 := by rw [hw3]; exact (Below.refl _ _).alloc (Nat.le_refl _) _
    have X3 : Hid (Bk w3 w2.heap.size [.slice Au L.length cu, .string s]) := by show Bk _ _ _; rw [hw3]; exact Bk.new w2 [.slice Au L.length cu, .string s] _ _ rfl
    have B3 := Lib.hid ((B1.out.trans (hb2.mono B1.out.size)).trans (k3.mono (Nat.le_trans B1.out.size hb2.size)))
    have R3 := Lib.hid (ho2.rd.keep k3)
    have HW3 := Lib.hid hw3
    obtain ⟨bx, hbx⟩ : ∃ bx, bx = w2.heap.size := ⟨_, rfl⟩
    rw [← hbx] at X3
    have HBX := Lib.hid hbx
    clear hbx
    have HSC := Lib.hid hsc
    obtain ⟨htp, hin, hqb, hql⟩ := sc_facts hsc
    have hkp := kpN_ok htp hqb hql
    have hk127 := kpN_le htp hqb hql hw7
    have hbdL : ∀ n ∈ L, -9223372036854775808 ≤ n ∧ n ≤ 9223372036854775807 := by
      intro n hn
      obtain ⟨i, hi, rfl⟩ := List.getElem_of_mem hn
      have := tpOk_le htp i hi
      have := (tpOk_wid htp).2
      omega
    have hssz : s.size ≤ maxLen := by
      have h1 := (scOk_parts hsc).2.2
      have h2 : s.data.toList.length = s.size := rfl
      have h3 := (tpOk_wid htp).2
      unfold maxLen; omega
    have hkV : kpV L s.data.toList = (kpN L (stQ s.data.toList) : Int) := by unfold kpV; rw [hsc]; rfl
    have hky : kyOk L s.data.toList 300 = true := by unfold kyOk; rw [hsc]; decide
    have HKP := Lib.hid (fun W h => keyPeriod_impl W (.slice Au L.length cu) L s hbdL hssz h)
    have HKB := Lib.hid (fun W h => keyBits_impl W (.slice Au L.length cu) L s 300 hbdL hssz h)
    rw [hkV, hsc] at HKP
    rw [hky, kyV_yes hky, show (⟨(kyL L s.data.toList 300).toArray⟩ : ByteArray) = kyB L s.data.toList from rfl] at HKB
    have HAT := Lib.hid (fun i hi => kyB_at hsc i hi)
    have HPE := Lib.hid (key_period hsc)
    have HLE := Lib.hid (fun d h1 hd => key_less hsc d (300 - kpN L (stQ s.data.toList)) h1 hd (by have := hkp.1; omega))
    have HNO := Lib.hid (fun d i h n hn => @smK_no L s.data.toList d i h n hn)
    have HSS : Hid (∀ d k, smK L s.data.toList d (k + 1) = (smK L s.data.toList d k && decide (kbit L (stQ s.data.toList) k = kbit L (stQ s.data.toList) (k + d)))) := by show ∀ _ _, _; intro d k; rfl
    have HS0 : Hid (∀ d, smK L s.data.toList d 0 = true) := by show ∀ _, _; intro d; rfl
    have hK300 := kyB_size hsc
    obtain ⟨P1, -, -, -⟩ := hkp
    have HAD := Lib.hid (fun W g hg h => addScramble_impl W (.slice Au L.length cu) L s g hbdL hssz hg h)
    have HFK := Lib.hid (fun W a b ha hb h => findKey_impl W (.slice Au L.length cu) L a b hbdL ha hb h)
    have HWO := Lib.hid (fun W h => worst_impl W (.slice Au L.length cu) L s 20 hbdL hssz h)
    have HSE := Lib.hid (fun W g hg h => selfScramble_impl W (.slice Au L.length cu) L s g hbdL hssz hg h)
    obtain ⟨WT, z1, e1, e2, e3, hWTs⟩ := worst_row hsc
    rw [z1, e1] at HWO
    have HSW := Lib.hid (fun W h => HSE.out W WT hWTs h)
    rw [e2, e3] at HSW
    have HLO := Lib.hid (fun W => longest_impl W ⟨#[48, 48, 48, 48, 48, 48, 48, 48, 48, 48, 48, 48, 48, 48, 48, 48, 48, 48, 48, 48]⟩ (by unfold maxLen; decide))
    rw [show lsV (⟨#[48, 48, 48, 48, 48, 48, 48, 48, 48, 48, 48, 48, 48, 48, 48, 48, 48, 48, 48, 48]⟩ : ByteArray).data.toList = 20 from lsV20, show isB (⟨#[48, 48, 48, 48, 48, 48, 48, 48, 48, 48, 48, 48, 48, 48, 48, 48, 48, 48, 48, 48]⟩ : ByteArray).data.toList = true from by decide] at HLO
    have HW7 := Lib.hid hw7
    have HBDL := Lib.hid hbdL
    clear hsc hw7 ho2 hb2 hw3 k3 B1 htp hin hqb hql hbdL hssz hkV hky HSE z1 e1 e2 e3 hWTs HL
    generalize kyB L s.data.toList = KB at *
    generalize kpN L (stQ s.data.toList) = P at *
    have hP1 : ¬ ((P : Int) < 1) := by omega
    have hP2 : ¬ ((127 : Int) < (P : Int)) := by omega
    have hKs : ((KB.size : Int) != 300) = false := bne_f (by omega)
    have hK3 := Lib.hid hK300
    clear hK300
    obtain ⟨qa, qb⟩ := sb_two X3.out
    go_wp2_with fail
    rw [← HW3.out, ← HBX.out]
    refine (HKP.out _ R3.out).mono ?_; rintro e w4 ⟨rfl, hb4⟩
    have X4 := Lib.hid (X3.out.keep hb4)
    have R4 := Lib.hid (R3.out.keep hb4)
    have B4 := Lib.hid (B3.out.trans (hb4.mono B3.out.size))
    clear hb4 X3 R3 B3 qa qb HW3 HBX
    obtain ⟨qa, qb⟩ := sb_two X4.out
    go_wp2_with fail
    refine (HKB.out _ R4.out).mono ?_; rintro e w5 ⟨rfl, hb5⟩
    have X5 := Lib.hid (X4.out.keep hb5)
    have R5 := Lib.hid (R4.out.keep hb5)
    have B5 := Lib.hid (B4.out.trans (hb5.mono B4.out.size))
    clear hb5 X4 R4 B4 qa qb HKP HKB
    obtain ⟨a, ⟨a0, a1⟩, ha⟩ := r8At_is w _ l1 0 P ⟨P1, by omega⟩ HR1.out HK1.out
    have HA : Hid (∀ W, Below w.heap.size w W → Calls Try.prog 28 #[.slice A1 n1 c1, .int .i64 0, .int .i64 (P : Int)] W fun e w' => e = .returned (.int .i64 a) ∧ W = w') := ha
    obtain ⟨D, hD⟩ : ∃ D : Nat, (D : Int) = 1 + a := ⟨(1 + a).toNat, by omega⟩
    have wd : IntKind.i64.wrap (1 + a) = (D : Int) := by rw [hD]; exact IntWalk.i64_in _ (by omega)
    have hD1 : 1 ≤ D := by omega
    have hDP : D ≤ P := by omega
    clear ha hD a0 a1
    go_wp2_with fail
    refine (HA.out _ B5.out).mono ?_; rintro e w' ⟨rfl, rfl⟩
    clear HA
    go_wp2_with fail
    clear wd
    go_loopw [11, 12] (fun sm i wr => ∃ k : Nat, k + P ≤ 300 ∧ i = .int .i64 k ∧ sm = .bool (smK L s.data.toList D k) ∧ Bk wr bx [.slice Au L.length cu, .string s] ∧ Rd wr (.slice Au L.length cu) L ∧ Below w.heap.size w wr) (fun _ i _ => 300 - (intOf i).toNat)
    case atStart => exact ⟨0, by omega, rfl, by rw [HS0.out], X5.out, R5.out, B5.out⟩
    case round =>
      obtain ⟨k, hk, rfl, rfl, hx, hr, hb⟩ := hrel
      have X6 := Lib.hid hx
      have R6 := Lib.hid hr
      have B6 := Lib.hid hb
      clear hx hr hb X5 R5 B5
      by_cases hlt : k + P < 300
      · have hks := hK3.out
        have i0 : (0 : Int) ≤ (k : Int) := by omega
        have i1 : (k : Int) < (KB.size : Int) := by omega
        have i2 : (0 : Int) ≤ (k : Int) + (P : Int) := by omega
        have i3 : (k : Int) + (P : Int) < (KB.size : Int) := by omega
        have i4 : (k : Int) + (P : Int) < 300 := by omega
        have i5 : ((k : Int) + (P : Int)).toNat = k + P := by omega
        have i6 : (0 : Int) ≤ (k : Int) + (D : Int) := by omega
        have i7 : (k : Int) + (D : Int) < (KB.size : Int) := by omega
        have i8 : ((k : Int) + (D : Int)).toNat = k + D := by omega
        have w1 : IntKind.i64.wrap ((k : Int) + (P : Int)) = (k : Int) + (P : Int) := IntWalk.i64_in _ (by omega)
        have w2' : IntKind.i64.wrap ((k : Int) + (D : Int)) = (k : Int) + (D : Int) := IntWalk.i64_in _ (by omega)
        have j1 : k < KB.size := by omega
        have j2 : k + P < KB.size := by omega
        have j3 : k + D < KB.size := by omega
        have x1 := HAT.out k j1
        have x2 := HAT.out (k + P) j2
        have x3 := HAT.out (k + D) j3
        rw [HPE.out k] at x2
        have hss := HSS.out D k
        obtain ⟨X, hX⟩ : ∃ X : Int, X = 48 + (kbit L (stQ s.data.toList) k : Int) := ⟨_, rfl⟩
        obtain ⟨Y, hY⟩ : ∃ Y : Int, Y = 48 + (kbit L (stQ s.data.toList) (k + D) : Int) := ⟨_, rfl⟩
        rw [← hX] at x1 x2
        rw [← hY] at x3
        have hxy : (kbit L (stQ s.data.toList) k = kbit L (stQ s.data.toList) (k + D)) ↔ X = Y := by omega
        have hss : smK L s.data.toList D (k + 1) = (smK L s.data.toList D k && decide (X = Y)) := by rw [hss, decide_eq_decide.2 hxy]
        have HSN := Lib.hid hss
        clear hss hX hY hxy hks HAT HPE HLE HNO HSS HS0
        generalize smK L s.data.toList D k = S at *
        cases S
        · go_wp2_with fail
          go_quiet (fail)
          go_wp2_with fail
          go_quiet (fail)
          go_wp2_with fail
          go_roundw
          case rel => exact ⟨k + 1, by omega, by go_num, by rw [HSN.out]; rfl, X6.out.drewN _, R6.out.drewN _, below_drewN B6.out _⟩
          case measure => simp [intOf]; omega
        · by_cases hc : X = Y
          · have e1 : (X == Y) = true := beq_t hc
            rw [decide_eq_true hc] at HSN
            clear hc
            go_wp2_with fail
            go_quiet (fail)
            go_wp2_with fail
            go_quiet (fail)
            go_wp2_with fail
            go_roundw
            case rel => exact ⟨k + 1, by omega, by go_num, by rw [HSN.out]; rfl, X6.out.drewN _, R6.out.drewN _, below_drewN B6.out _⟩
            case measure => simp [intOf]; omega
          · have e1 : (X == Y) = false := beq_f hc
            rw [decide_eq_false hc] at HSN
            clear hc
            go_wp2_with fail
            go_quiet (fail)
            go_wp2_with fail
            go_quiet (fail)
            go_wp2_with fail
            go_roundw
            case rel => exact ⟨k + 1, by omega, by go_num, by rw [HSN.out]; rfl, X6.out.drewN _, R6.out.drewN _, below_drewN B6.out _⟩
            case measure => simp [intOf]; omega
      · have hkk : k = 300 - P := by omega
        have i4 : ¬ (k : Int) + (P : Int) < 300 := by omega
        have w1 : IntKind.i64.wrap ((k : Int) + (P : Int)) = (k : Int) + (P : Int) := IntWalk.i64_in _ (by omega)
        have hsm : D = P ∨ (D ≠ P ∧ smK L s.data.toList D k = false) := by
          by_cases hDP2 : D = P
          · exact .inl hDP2
          · obtain ⟨i, hi, hne⟩ := HLE.out D hD1 (by omega)
            exact .inr ⟨hDP2, HNO.out D i hne k (by omega)⟩
        have HSM := Lib.hid hsm
        clear hsm hkk HAT HPE HLE HNO HSS HS0 hK3
        go_wp2_with fail
        refine (r8Bits_any _ _ _ 20 (by decide) (rdv_keepK HR1.out B6.out) HK1.out).mono ?_; rintro e w7 ⟨M, rfl, ⟨hM20, hMin⟩, hb7⟩
        have X7 := Lib.hid (X6.out.keep hb7)
        have R7 := Lib.hid (R6.out.keep hb7)
        have B7 := Lib.hid (B6.out.trans (hb7.mono B6.out.size))
        clear hb7 X6 R6 B6
        obtain ⟨G, hG⟩ : ∃ G : ByteArray, G = ⟨M.toArray⟩ ++ ⟨#[49, 48, 49, 48, 49, 48, 49]⟩ := ⟨_, rfl⟩
        have r1 : ∀ W : World, (Op.stringOp .add ⟨M.toArray⟩ ⟨#[49, 48, 49, 48, 49, 48, 49]⟩).run Try.prog W = .ok (.string G) W := fun W => by rw [hG]; exact run_string_add_sum W _ _ (by show M.toArray.size + 7 ≤ _; rw [List.size_toArray]; omega)
        obtain ⟨g1, g2, g3⟩ := plain_ok hG hM20 hMin
        obtain ⟨AB, u1, u2, u3, u4, u5⟩ := key_row HSC.out g1 (by have := HW7.out; omega)
        have HAD2 := Lib.hid (fun W h => HAD.out W G g3 h)
        have HFK2 := Lib.hid (fun W h => HFK.out W AB G u5 g3 h)
        rw [u1, u2] at HAD2
        rw [u3, u4] at HFK2
        have e6 : ((20 : Int) == 20) = true := by decide
        clear hG g1 g2 g3 u1 u2 u3 u4 u5 HAD HFK hM20 hMin HSC HW7 HBDL i4 w1 hlt
        have hxx : (smK L s.data.toList D k = false ∧ ((D : Int) == (P : Int)) = false) ∨ ((D : Int) == (P : Int)) = true := by
          rcases HSM.out with h | ⟨h1, h2⟩
          · exact .inr (beq_t (by omega))
          · exact .inl ⟨h2, beq_f (by omega)⟩
        clear HSM hDP hD1 P1 hP1 hP2 hKs hk127 hk
        generalize smK L s.data.toList D k = S at *
        rcases hxx with ⟨rfl, e7⟩ | e7
        all_goals (obtain ⟨qa, qb⟩ := sb_two X7.out)
        all_goals go_wp2_with fail
        all_goals (refine (HAD2.out _ R7.out).mono ?_; rintro e w8 ⟨rfl, hb8⟩; have X8 := Lib.hid (X7.out.keep hb8); have R8 := Lib.hid (R7.out.keep hb8); have B8 := Lib.hid (B7.out.trans (hb8.mono B7.out.size)); clear hb8 X7 R7 B7 qa qb)
        all_goals (obtain ⟨qa, qb⟩ := sb_two X8.out)
        all_goals go_wp2_with fail
        all_goals (refine (HFK2.out _ R8.out).mono ?_; rintro e w9 ⟨rfl, hb9⟩; have X9 := Lib.hid (X8.out.keep hb9); have R9 := Lib.hid (R8.out.keep hb9); have B9 := Lib.hid (B8.out.trans (hb9.mono B8.out.size)); clear hb9 X8 R8 B8 qa qb)
        all_goals (obtain ⟨qa, qb⟩ := sb_two X9.out)
        all_goals go_wp2_with fail
        all_goals (refine (HWO.out _ R9.out).mono ?_; rintro e w10 ⟨rfl, hb10⟩; have X10 := Lib.hid (X9.out.keep hb10); have R10 := Lib.hid (R9.out.keep hb10); have B10 := Lib.hid (B9.out.trans (hb10.mono B9.out.size)); clear hb10 X9 R9 B9 qa qb)
        all_goals (obtain ⟨qa, qb⟩ := sb_two X10.out)
        all_goals go_wp2_with fail
        all_goals (refine (HSW.out _ R10.out).mono ?_; rintro e w11 ⟨rfl, hb11⟩; have X11 := Lib.hid (X10.out.keep hb11); have R11 := Lib.hid (R10.out.keep hb11); have B11 := Lib.hid (B10.out.trans (hb11.mono B10.out.size)); clear hb11 X10 R10 B10 qa qb)
        all_goals (obtain ⟨qa, qb⟩ := sb_two X11.out)
        all_goals go_wp2_with fail
        all_goals (refine (HLO.out _).mono ?_; rintro e w12 ⟨rfl, hb12⟩; have X12 := Lib.hid (X11.out.keep hb12); have B12 := Lib.hid (B11.out.trans (hb12.mono B11.out.size)); clear hb12 X11 R11 B11 qa qb)
        all_goals (obtain ⟨qa, qb⟩ := sb_two X12.out)
        all_goals go_wp2_with fail
        all_goals go_ret
        all_goals exact ⟨rfl, B12.out⟩
end Go.Proofs.Ytddlpbpcdjddpaa

namespace Go.Proofs.Ytddlpbpcdjddpaa.fnKeys
open Go.ChangeShapes Go.WideShapes Go.ChangeAt Go.RowKit
open Go.ChangeMaps (open_string shut_string)
set_option linter.unusedVariables false

theorem laid : laidOutB Try.prog = true := by kernel_rfl
theorem own : ownKnob Try.prog.godebug = none := by kernel_rfl
set_option maxRecDepth 100000 in
theorem lifted (os : Os) (started : os.Started) (H : Type) (enc : TypeId × Value → H) :
    ReturnsInHanded {} Try.checked os 9 .any (Rows.fnKeysSpec.pre6 enc Try.prog Try.f9 Rows.fnKeysRow.domain false) (Rows.fnKeysSpec.post enc Try.prog Try.f9 false true false false) := by
  refine returnsInHanded_of_change (C := Try.checked) own started (by kernel_rfl) Try.func9
    (ChangeSpec.witness6 (enc := enc) (C := Try.checked) false ⟨#[], #[.slice none 0 0, .slice none 0 0], []⟩ 8 (by kernel_rfl) (by kernel_rfl) (by kernel_rfl) (by kernel_rfl)) ?_
  intro W base args ds gs before hval0 hW hcnd _
  have hval : ∀ (j : Nat) t v, Try.f9.params[j]? = some t → args[j]? = some v → Value.okWide Try.prog W .any base t v := hval0
  have hW' := hW
  obtain ⟨p, q, hA0, hV, rfl, hfz, hnd⟩ := hW
  have hA : DataW.TrodAll enc Try.prog W 0 (fun _ => true) true Try.f9.params.toList args.toList ds p := hA0
  rw [Try.params9] at hA hval
  obtain ⟨v0, vs0, d0, ds0, p0, q0, hargs, rfl, rfl, h0, r0⟩ := trodAll_cons hA
  obtain ⟨v1, vs1, d1, ds1, p1, q1, rfl, rfl, rfl, h1, r1⟩ := trodAll_cons r0
  obtain ⟨rfl, rfl, rfl⟩ := trodAll_nil r1
  obtain rfl : args = #[v0, v1] := by cases args; simp_all
  obtain ⟨rfl, rfl⟩ := trodVars_none hV
  have kk0 := h0
  obtain ⟨ao0, len0, cap0, rfl⟩ := okWide_slice Try.underlying41 (hval 0 41 v0 rfl rfl)
  obtain ⟨fuel0, hf0⟩ := h0
  obtain ⟨l0, R0, F0⟩ := bytes_open (v := .slice ao0 len0 cap0) (by simpa [Value.cells] using hf0)
  have kk1 := h1
  obtain ⟨ao1, len1, cap1, rfl⟩ := okWide_slice Try.underlying41 (hval 1 41 v1 rfl rfl)
  obtain ⟨fuel1, hf1⟩ := h1
  obtain ⟨l1, R1, F1⟩ := bytes_open (v := .slice ao1 len1 cap1) (by simpa [Value.cells] using hf1)
  clear hA0 hval0
  refine (law_FnKeys _ l0 F0 _ l1 F1 W R0 R1).mono fun e W' ⟨he, bel⟩ => ?_
  subst he
  exact ⟨_, rfl, _, _, _, [], _, [], hW', trodAll_mk1 (shut_bool Try.underlying4 _), (trodAll_cons_mk (Go.RowKit.Below.trod laid (by kernel_rfl) (of_decide_eq_true (by kernel_rfl)) kk0 bel (fun x hx => DataW.trod_lt _ _ _ _ kk0.choose_spec x hx)) (trodAll_cons_mk (Go.RowKit.Below.trod laid (by kernel_rfl) (of_decide_eq_true (by kernel_rfl)) kk1 bel (fun x hx => DataW.trod_lt _ _ _ _ kk1.choose_spec x hx)) trodAll_mk0)), rfl, bel.frame _, fun h => by cases h⟩

theorem over : Rows.fnKeysRow.holds Try.pinned (OpenSpec.ofChange Rows.fnKeysSpec) :=
  OpenClaim.holds_of_wide 9 Try.f9 rfl rfl rfl rfl rfl rfl rfl ⟨rfl, rfl, rfl, rfl, rfl⟩ rfl rfl rfl rfl rfl (by kernel_rfl) Try.func9 (by kernel_rfl)
    (of_decide_eq_true (by kernel_rfl)) (by unfold Func.isWrapper; first | (rw [if_pos (by decide +kernel)]; kernel_rfl) | (rw [if_neg (by decide +kernel)]; exact ⟨rfl, rfl⟩))
    (fun os started H enc _ => lifted os started H enc)

/-- The statement. -/
theorem proved : Rows.FnKeysSaid := over
#print axioms proved
end Go.Proofs.Ytddlpbpcdjddpaa.fnKeys

