/- Plain facts on the key in front of a key, without the program: the turned taps. -/
import Derived.Test.YtddlpbpcdjddpaaKpp
import Derived.Test.YtddlpbpcdjddpaaKys
namespace Go.Proofs.Ytddlpbpcdjddpaa
set_option linter.unusedVariables false
open Go Go.RowKit
theorem smF_acc (q : List Nat) : ∀ (l : List Int) (a : Nat), smF l q a = a ^^^ smF l q 0
  | [], a => by simp [smF]
  | t :: l, a => by
    show smF l q (a ^^^ bk q t) = a ^^^ smF l q (0 ^^^ bk q t)
    rw [smF_acc q l (a ^^^ bk q t), smF_acc q l (0 ^^^ bk q t), Nat.zero_xor, Nat.xor_assoc]
theorem smF_cons (t : Int) (l : List Int) (q : List Nat) : smF (t :: l) q 0 = bk q t ^^^ smF l q 0 := by
  show smF l q (0 ^^^ bk q t) = _
  rw [Nat.zero_xor, smF_acc]
theorem smF_rev (q : List Nat) : ∀ (l : List Int), smF l.reverse q 0 = smF l q 0
  | [] => rfl
  | t :: l => by rw [List.reverse_cons, smF_snoc, smF_rev q l, smF_cons, Nat.xor_comm]
/-- The turned taps, as the program makes them ahead of turning the list, and behind it. -/
def trL (l : List Int) : List Int := wid l :: l.dropLast.map (wid l - ·)
def trn (l : List Int) : List Int := (trL l).reverse
theorem trL_len (l : List Int) (h : 0 < l.length) : (trL l).length = l.length := by simp [trL]; omega
theorem trn_len (l : List Int) (h : 0 < l.length) : (trn l).length = l.length := by simp [trn, trL]; omega
theorem drop_mem {l : List Int} (ht : tpOk l = true) {t : Int} (h : t ∈ l.dropLast) : 1 ≤ t ∧ t < wid l := by
  obtain ⟨h0, hi, hr⟩ := tpOk_parts ht
  obtain ⟨k, hk, e⟩ := List.getElem_of_mem h
  rw [List.length_dropLast] at hk
  rw [List.getElem_dropLast] at e
  have h1 := tpOk_le ht k (by omega)
  have h2 := inc_far hi (l.length - 1 - k) k (by omega)
  rw [wid_at h0]
  simp only [show k + (l.length - 1 - k) = l.length - 1 from by omega] at h2
  omega
/-- The bit in front of a sequence, as the model finds it. -/
def bbF (m : List Int) (S : List Nat) (w : Nat) (a : Nat) : Nat := m.foldl (fun a t => a ^^^ S.getD (w - 1 - t.toNat) 0) a
def bb (l : List Int) (S : List Nat) : Nat := bbF l.dropLast S (wid l).toNat (S.getD ((wid l).toNat - 1) 0)
theorem bbF_snoc (m : List Int) (t : Int) (S : List Nat) (w a : Nat) : bbF (m ++ [t]) S w a = bbF m S w a ^^^ S.getD (w - 1 - t.toNat) 0 := by simp [bbF]
def bq (l : List Int) (S : List Nat) : Nat → List Nat
  | 0 => S
  | k + 1 => bb l (bq l S k) :: bq l S k
theorem bq_len (l : List Int) (S : List Nat) : ∀ k, (bq l S k).length = S.length + k
  | 0 => rfl
  | k + 1 => by simp [bq, bq_len l S k]; omega
theorem bk_rev {S : List Nat} {t : Int} (h : t ≤ (S.length : Int)) (h1 : 1 ≤ t) : bk S.reverse t = S.getD (t.toNat - 1) 0 := by
  unfold bk
  rw [List.length_reverse, List.getD, List.getD, List.getElem?_reverse (by omega)]
  congr 2
  omega
theorem smF_turn {S : List Nat} {W : Int} (hW : W ≤ (S.length : Int)) : ∀ (m : List Int) (a : Nat), (∀ t ∈ m, 1 ≤ t ∧ t < W) → smF (m.map (W - ·)) S.reverse a = bbF m S W.toNat a
  | [], a, _ => rfl
  | t :: m, a, h => by
    have ht := h t (List.mem_cons_self ..)
    show smF (m.map (W - ·)) S.reverse (a ^^^ bk S.reverse (W - t)) = bbF m S W.toNat (a ^^^ S.getD (W.toNat - 1 - t.toNat) 0)
    rw [smF_turn hW m _ (fun x hx => h x (List.mem_cons_of_mem _ hx)), bk_rev (by omega) (by omega), show (W - t).toNat - 1 = W.toNat - 1 - t.toNat from by omega]
theorem sm_turn {l : List Int} {S : List Nat} (ht : tpOk l = true) (hW : wid l ≤ (S.length : Int)) : sm (trn l) S.reverse = bb l S := by
  have hw := tpOk_wid ht
  unfold sm trn
  rw [smF_rev]
  show smF (l.dropLast.map (wid l - ·)) S.reverse (0 ^^^ bk S.reverse (wid l)) = _
  rw [smF_turn hW _ _ (fun t h => drop_mem ht h), Nat.zero_xor, bk_rev hW hw.1]
  rfl
theorem kq_turn {l : List Int} {S : List Nat} (ht : tpOk l = true) (hW : wid l ≤ (S.length : Int)) : ∀ k, kq (trn l) S.reverse k = (bq l S k).reverse
  | 0 => rfl
  | k + 1 => by
    show kq (trn l) S.reverse k ++ [sm (trn l) (kq (trn l) S.reverse k)] = (bb l (bq l S k) :: bq l S k).reverse
    rw [kq_turn ht hW k, sm_turn ht (by rw [bq_len]; omega), List.reverse_cons]
/-- The bits in front, the last one first: the state's text. -/
def bst (l : List Int) (S : List Nat) (k : Nat) : List Nat := ((bq l S k).take k).reverse
theorem kb_turn {l : List Int} {S : List Nat} (ht : tpOk l = true) (hW : wid l ≤ (S.length : Int)) (k : Nat) : kb (trn l) S.reverse k = bst l S k := by
  unfold kb bst
  rw [kq_turn ht hW, List.length_reverse, List.drop_reverse, bq_len, show S.length + k - S.length = k from by omega]
theorem bst_succ (l : List Int) (S : List Nat) (k : Nat) : bst l S (k + 1) = bst l S k ++ [bb l (bq l S k)] := by
  show ((bb l (bq l S k) :: bq l S k).take (k + 1)).reverse = _
  rw [List.take_succ_cons, List.reverse_cons]; rfl
theorem bbF_le {S : List Nat} (hS : bitsN S) (w : Nat) : ∀ (m : List Int) (a : Nat), a ≤ 1 → bbF m S w a ≤ 1
  | [], a, h => h
  | t :: m, a, h => bbF_le hS w m _ (xor_le h (by
      rw [List.getD]
      cases e : S[w - 1 - t.toNat]?
      · simp
      · exact hS _ (List.mem_of_getElem? e)))
theorem bq_bits {l : List Int} {S : List Nat} (hS : bitsN S) : ∀ k, bitsN (bq l S k)
  | 0 => hS
  | k + 1 => fun x hx => by
    rcases List.mem_cons.1 hx with rfl | hx
    · refine bbF_le (bq_bits hS k) _ _ _ ?_
      rw [List.getD]
      cases e : (bq l S k)[(wid l).toNat - 1]?
      · simp
      · exact bq_bits hS k _ (List.mem_of_getElem? e)
    · exact bq_bits hS k x hx
theorem bst_bits {l : List Int} {S : List Nat} (hS : bitsN S) (k : Nat) : bitsN (bst l S k) := fun x hx => bq_bits hS k x (List.mem_of_mem_take (List.mem_reverse.1 hx))
theorem bst_len (l : List Int) (S : List Nat) (k : Nat) : (bst l S k).length = k := by
  rw [bst, List.length_reverse, List.length_take, bq_len]; omega
theorem trL_get (l : List Int) (i : Nat) (h : i < l.length) : (trL l).getD i 0 = if i = 0 then wid l else wid l - l.getD (i - 1) 0 := by
  cases i with
  | zero => rfl
  | succ i =>
    rw [if_neg (by omega), trL, List.getD_cons_succ, List.getD, List.getElem?_map, List.getElem?_dropLast, if_pos (by omega), List.getElem?_eq_getElem (by omega), List.getD, Nat.add_sub_cancel, List.getElem?_eq_getElem (by omega)]
    rfl
theorem trn_get (l : List Int) (i : Nat) (h : i < l.length) : (trn l).getD i 0 = if i = l.length - 1 then wid l else wid l - l.getD (l.length - 2 - i) 0 := by
  unfold trn
  rw [List.getD, List.getElem?_reverse (by rw [trL_len l (by omega)]; omega), trL_len l (by omega), ← List.getD, trL_get l _ (by omega)]
  by_cases e : i = l.length - 1
  · rw [if_pos (by omega), if_pos e]
  · rw [if_neg (by omega), if_neg e, show l.length - 1 - i - 1 = l.length - 2 - i from by omega]
theorem getD_mem {l : List Int} (k : Nat) (hk : k < l.length) : l.getD k 0 = l[k] := by rw [List.getD, List.getElem?_eq_getElem hk]; rfl
theorem trn_ok {l : List Int} (ht : tpOk l = true) : tpOk (trn l) = true ∧ wid (trn l) = wid l := by
  obtain ⟨h0, hi, hr⟩ := tpOk_parts ht
  have hw := tpOk_wid ht
  have hn := trn_len l h0
  have hwid : wid (trn l) = wid l := by
    show (trn l).getD ((trn l).length - 1) 0 = _
    rw [hn, trn_get l _ (by omega), if_pos rfl]
  refine ⟨?_, hwid⟩
  have hg : ∀ k, k + 1 < l.length → 1 ≤ l.getD k 0 ∧ l.getD k 0 + 1 ≤ wid l := fun k hk => by
    have h2 := inc_far hi (l.length - 1 - k) k (by omega)
    have h1 := tpOk_le ht k (by omega)
    simp only [show k + (l.length - 1 - k) = l.length - 1 from by omega] at h2
    rw [getD_mem k (by omega), wid_at h0]
    omega
  unfold tpOk
  rw [Bool.and_eq_true, Bool.and_eq_true]
  refine ⟨decide_eq_true (by omega), ?_, tpR_upto fun k hk => ?_⟩
  · unfold inc
    rw [List.all_eq_true]
    intro j hj
    rw [List.mem_range, hn] at hj
    by_cases hj0 : j = 0
    · subst hj0; rfl
    · have h1 := trn_get l j hj
      have h2 := trn_get l (j - 1) (by omega)
      rw [if_neg (by omega)] at h2
      have h3 := hg (l.length - 2 - (j - 1)) (by omega)
      rw [Bool.or_eq_true]
      refine .inr (decide_eq_true ?_)
      rw [h1, h2]
      by_cases e : j = l.length - 1
      · rw [if_pos e]; omega
      · rw [if_neg e]
        have h4 := inc_far hi 1 (l.length - 2 - j) (by omega)
        rw [getD_mem _ (by omega), getD_mem _ (by omega)]
        simp only [show l.length - 2 - (j - 1) = l.length - 2 - j + 1 from by omega]
        omega
  · rw [hn] at hk
    have h1 := trn_get l k hk
    rw [getD_mem k (by omega)] at h1
    rw [h1]
    by_cases e : k = l.length - 1
    · rw [if_pos e]; exact hw
    · rw [if_neg e]
      have := hg (l.length - 2 - k) (by omega)
      omega
end Go.Proofs.Ytddlpbpcdjddpaa
