/- Keys: what FnKeys asks, plain. -/
import Derived.Test.YtcihogbkfpcfjabKpi
import Derived.Test.YtcihogbkfpcfjabFkD
namespace Go.Proofs.Ytcihogbkfpcfjab
set_option linter.unusedVariables false
open Go Go.RowKit

/-! The key in front of a part of it. -/
theorem kq_take {l : List Int} {q : List Nat} (hq : bitsN q) : ∀ (n k : Nat), k ≤ n → (kq l q n).take (q.length + k) = kq l q k
  | 0, k, h => by
    obtain rfl : k = 0 := by omega
    show q.take _ = q
    exact List.take_of_length_le (by omega)
  | n + 1, k, h => by
    have hl := (kq_ok (l := l) hq n).2
    by_cases e : k = n + 1
    · subst e
      exact List.take_of_length_le (by rw [(kq_ok hq _).2]; omega)
    · show (kq l q n ++ [sm l (kq l q n)]).take _ = _
      rw [List.take_append_of_le_length (by omega)]
      exact kq_take hq n k (by omega)
theorem kq_next {l : List Int} {q : List Nat} (hq : bitsN q) (n k : Nat) (h : k < n) : (kq l q n).getD (q.length + k) 0 = sm l (kq l q k) := by
  have h1 := kq_take (l := l) hq n (k + 1) (by omega)
  have hl := (kq_ok (l := l) hq k).2
  rw [List.getD, ← List.getElem?_take_of_lt (show q.length + k < q.length + (k + 1) by omega), h1]
  show ((kq l q k ++ [sm l (kq l q k)])[q.length + k]?).getD 0 = _
  rw [List.getElem?_append_right (by omega), hl, Nat.sub_self]; rfl
theorem dropLast_wid {l : List Int} (h : 0 < l.length) : l = l.dropLast ++ [wid l] := by
  have hne : l ≠ [] := by intro e; subst e; simp at h
  conv => lhs; rw [← List.dropLast_concat_getLast hne]
  rw [wid_at h, List.getLast_eq_getElem]
theorem bbF_smF {Z : List Nat} {w j : Nat} : ∀ (m : List Int) (a : Nat), (∀ t ∈ m, 1 ≤ t ∧ t < (w : Int)) → w + j ≤ Z.length → bbF m (Z.drop (j + 1)) w a = smF m (Z.take (w + j)) a
  | [], a, _, _ => rfl
  | t :: m, a, h, hZ => by
    have ht := h t (List.mem_cons_self ..)
    show bbF m _ w (a ^^^ (Z.drop (j + 1)).getD (w - 1 - t.toNat) 0) = smF m _ (a ^^^ bk (Z.take (w + j)) t)
    have e : (Z.drop (j + 1)).getD (w - 1 - t.toNat) 0 = bk (Z.take (w + j)) t := by
      unfold bk
      rw [List.length_take, show min (w + j) Z.length = w + j from by omega, List.getD, List.getD, List.getElem?_drop, List.getElem?_take_of_lt (by omega)]
      congr 2
      omega
    rw [e]
    exact bbF_smF m _ (fun x hx => h x (List.mem_cons_of_mem _ hx)) hZ
theorem xor_back (a b : Nat) : (a ^^^ b) ^^^ a = b := by rw [Nat.xor_comm a b, Nat.xor_assoc, Nat.xor_self, Nat.xor_zero]
theorem bb_key {l : List Int} {q : List Nat} (ht : tpOk l = true) (hq : bitsN q) (hw : (q.length : Int) = wid l) (j : Nat) (hj : j < q.length) : bb l ((kq l q q.length).drop (j + 1)) = (kq l q q.length).getD j 0 := by
  have h0 := (tpOk_parts ht).1
  have hl := (kq_ok (l := l) hq q.length).2
  have hW : (wid l).toNat = q.length := by omega
  have hn := kq_next (l := l) hq q.length j hj
  have htk := kq_take (l := l) hq q.length j (by omega)
  have hk := (kq_ok (l := l) hq j).2
  have h1 : ((kq l q q.length).drop (j + 1)).getD (q.length - 1) 0 = sm l (kq l q j) := by
    rw [List.getD, List.getElem?_drop, show j + 1 + (q.length - 1) = q.length + j from by omega, ← List.getD]; exact hn
  have h2 : sm l (kq l q j) = smF l.dropLast (kq l q j) 0 ^^^ (kq l q q.length).getD j 0 := by
    have e : sm l (kq l q j) = smF (l.dropLast ++ [wid l]) (kq l q j) 0 := by rw [← dropLast_wid h0]; rfl
    rw [e, smF_snoc]
    congr 1
    unfold bk
    rw [hk, hW, show q.length + j - q.length = j from by omega, List.getD, List.getD, ← htk, List.getElem?_take_of_lt (by omega)]
  unfold bb
  rw [hW, h1, bbF_smF _ _ (fun t hm => by have := drop_mem ht hm; omega) (by omega), htk, smF_acc, h2]
  exact xor_back _ _
theorem bq_key {l : List Int} {q : List Nat} (ht : tpOk l = true) (hq : bitsN q) (hw : (q.length : Int) = wid l) : ∀ k, k ≤ q.length → bq l ((kq l q q.length).drop q.length) k = (kq l q q.length).drop (q.length - k)
  | 0, _ => rfl
  | k + 1, h => by
    have hl := (kq_ok (l := l) hq q.length).2
    have ih := bq_key ht hq hw k (by omega)
    show bb l (bq l _ k) :: bq l _ k = _
    rw [ih]
    have hb := bb_key ht hq hw (q.length - (k + 1)) (by omega)
    rw [show q.length - (k + 1) + 1 = q.length - k from by omega] at hb
    rw [hb, List.drop_eq_getElem_cons (show q.length - (k + 1) < (kq l q q.length).length by omega), show q.length - (k + 1) + 1 = q.length - k from by omega, List.getD, List.getElem?_eq_getElem (by omega)]
    rfl
/-- The state is found from the first bits of its key. -/
theorem bst_key {l : List Int} {q : List Nat} (ht : tpOk l = true) (hq : bitsN q) (hw : (q.length : Int) = wid l) : bst l (kb l q q.length) q.length = q.reverse := by
  have h1 := bq_key ht hq hw q.length (Nat.le_refl _)
  have h2 := kq_take (l := l) hq q.length 0 (by omega)
  rw [Nat.sub_self, List.drop_zero] at h1
  rw [Nat.add_zero] at h2
  unfold bst kb
  rw [h1, h2]; rfl
theorem kb_take {l : List Int} {q : List Nat} (hq : bitsN q) (n k : Nat) (h : k ≤ n) : (kb l q n).take k = kb l q k := by
  unfold kb
  rw [List.take_drop, kq_take (l := l) hq n k h]
/-! Periods. -/
theorem sm_wn {l : List Int} {q : List Nat} (ht : tpOk l = true) (hq : bitsN q) (hw : (q.length : Int) = wid l) (k : Nat) : sm l (kq l q k) = sm l (wn l q k) := by
  rw [← kq_wn ht hq hw k]
  refine (smF_drop l 0 fun t hm => ?_).symm
  obtain ⟨i, hi, rfl⟩ := List.getElem_of_mem hm
  have := tpOk_le ht i hi
  rw [(kq_ok (l := l) hq k).2]
  exact ⟨this.1, by omega⟩
/-- A bit of the key. -/
def kbit (l : List Int) (q : List Nat) (i : Nat) : Nat := sm l (wn l q i)
theorem kb_get {l : List Int} {q : List Nat} (ht : tpOk l = true) (hq : bitsN q) (hw : (q.length : Int) = wid l) (n i : Nat) (h : i < n) : (kb l q n).getD i 0 = kbit l q i := by
  unfold kb kbit
  rw [List.getD, List.getElem?_drop, ← List.getD, kq_next hq n i h, sm_wn ht hq hw]
theorem wn_on {l : List Int} {q : List Nat} {P : Nat} (h : wn l q P = q) : ∀ k, wn l q (P + k) = wn l q k
  | 0 => h
  | k + 1 => by
    show nx l (wn l q (P + k)) = nx l (wn l q k)
    rw [wn_on h k]
theorem kbit_on {l : List Int} {q : List Nat} {P : Nat} (h : wn l q P = q) (k : Nat) : kbit l q (k + P) = kbit l q k := by
  unfold kbit
  rw [Nat.add_comm, wn_on h]
theorem wn_window {l : List Int} {q : List Nat} (ht : tpOk l = true) (hq : bitsN q) (hw : (q.length : Int) = wid l) (k i : Nat) (hi : i < q.length) : (wn l q (q.length + k)).getD i 0 = kbit l q (k + i) := by
  rw [← kq_wn ht hq hw, List.getD, List.getElem?_drop, show q.length + k + i = q.length + (k + i) from by omega, ← List.getD, kq_next hq _ _ (by omega), sm_wn ht hq hw]; rfl
theorem wn_same {l : List Int} {q : List Nat} (ht : tpOk l = true) (hq : bitsN q) (hw : (q.length : Int) = wid l) (d : Nat) (h : ∀ i, i < q.length → kbit l q i = kbit l q (i + d)) : wn l q d = q := by
  have h0 : 0 < q.length := by have := (tpOk_wid ht).1; omega
  have e : wn l q q.length = wn l q (q.length + d) := by
    have l1 := (wn_ok (l := l) hq h0 q.length).2
    have l2 := (wn_ok (l := l) hq h0 (q.length + d)).2
    apply List.ext_getElem
    · omega
    · intro i h1 h2
      have a := wn_window ht hq hw 0 i (by omega)
      have b := wn_window ht hq hw d i (by omega)
      rw [Nat.add_zero] at a
      rw [Nat.zero_add] at a
      rw [show d + i = i + d from by omega, ← h i (by omega), ← a, List.getD, List.getD, List.getElem?_eq_getElem h2, List.getElem?_eq_getElem h1] at b
      exact b.symm
  exact (wn_back ht hq hw _ _ e).symm
theorem smF_zeros {q : List Nat} (h : ∀ x ∈ q, x = 0) : ∀ (l : List Int), smF l q 0 = 0
  | [] => rfl
  | t :: l => by
    have e : bk q t = 0 := by
      unfold bk
      rw [List.getD]
      cases e : q[q.length - t.toNat]? with
      | none => rfl
      | some x => exact h x (List.mem_of_getElem? e)
    show smF l q (0 ^^^ bk q t) = 0
    rw [e]; exact smF_zeros h l
theorem nb_zero : ∀ (u : List Nat), nb u = 0 → ∀ x ∈ u, x = 0
  | [], _ => by intro x hx; cases hx
  | a :: u, h => by
    rw [nb_cons] at h
    have ha : a * 2 ^ u.length = 0 := by omega
    have hp := Nat.pow_pos (n := u.length) (show 0 < 2 by omega)
    have h1 : a = 0 := by
      rcases Nat.mul_eq_zero.1 ha with h | h
      · exact h
      · omega
    intro x hx
    rcases List.mem_cons.1 hx with rfl | hx
    · exact h1
    · exact nb_zero u (by omega) x hx
theorem nx_zeros {l : List Int} {u : List Nat} (h : ∀ x ∈ u, x = 0) (h0 : 0 < u.length) : nx l u = u := by
  have e : u = List.replicate u.length 0 := List.eq_replicate_iff.2 ⟨rfl, h⟩
  unfold nx sm
  rw [smF_zeros h]
  rw [e]
  obtain ⟨n, hn⟩ : ∃ n, u.length = n + 1 := ⟨u.length - 1, by omega⟩
  rw [hn, List.drop_replicate, Nat.add_sub_cancel]
  exact (List.replicate_succ' ..).symm
theorem kpN_le {l : List Int} {u : List Nat} (ht : tpOk l = true) (hu : bitsN u) (lu : (u.length : Int) = wid l) (h7 : wid l ≤ 7) : kpN l u ≤ 127 := by
  obtain ⟨p1, -, -, pm⟩ := kpN_ok ht hu lu
  have h0 : 0 < u.length := by have := (tpOk_wid ht).1; omega
  by_cases hz : ∃ i, nb (wn l u i) = 0
  · obtain ⟨i, hi⟩ := hz
    have e : wn l u i = wn l u (i + 1) := (nx_zeros (nb_zero _ hi) (by rw [(wn_ok hu h0 i).2]; exact h0)).symm
    have := (wn_back ht hu lu i 1 e).symm
    by_cases hk : 1 < kpN l u
    · exact absurd this (pm 1 (Nat.le_refl _) hk)
    · omega
  · have hlt : ∀ i, nb (wn l u i) < 128 := fun i => by
      have h1 := nb_lt _ (wn_ok (l := l) hu h0 i).1
      rw [(wn_ok hu h0 i).2] at h1
      have h2 : 2 ^ u.length ≤ 2 ^ 7 := Nat.pow_le_pow_right (by omega) (by omega)
      omega
    obtain ⟨i, j, hij, hj, e⟩ := php 127 (fun i => nb (wn l u i) - 1) (fun i _ => by
      have := hlt i
      have : nb (wn l u i) ≠ 0 := fun h => hz ⟨i, h⟩
      show nb (wn l u i) - 1 < 127
      omega)
    have e' : nb (wn l u i) = nb (wn l u j) := by
      have a : nb (wn l u i) ≠ 0 := fun h => hz ⟨i, h⟩
      have b : nb (wn l u j) ≠ 0 := fun h => hz ⟨j, h⟩
      have e : nb (wn l u i) - 1 = nb (wn l u j) - 1 := e
      omega
    have e2 : wn l u i = wn l u (i + (j - i)) := by
      rw [show i + (j - i) = j from by omega]
      exact nb_inj _ _ (wn_ok hu h0 i).1 (wn_ok hu h0 j).1 (by rw [(wn_ok hu h0 i).2, (wn_ok hu h0 j).2]) e'
    have := (wn_back ht hu lu i (j - i) e2).symm
    by_cases hk : j - i < kpN l u
    · exact absurd this (pm (j - i) (by omega) hk)
    · omega
/-! What is descrambled is scrambled back. -/
theorem sc_back (l : List Int) (q bs : List Nat) : (scF true l q bs).1 = q ++ bs ∧ scF false l q (scF true l q bs).2 = (q ++ bs, bs) := by
  refine snoc_ind (P := fun bs => (scF true l q bs).1 = q ++ bs ∧ scF false l q (scF true l q bs).2 = (q ++ bs, bs)) ?_ ?_ bs
  · exact ⟨(List.append_nil q).symm, by simp [scF]⟩
  · intro bs b ⟨h1, h2⟩
    rw [scF_snoc]
    unfold scG
    refine ⟨by simp [h1], ?_⟩
    simp only [h1]
    rw [scF_snoc, h2]
    unfold scG
    have e : b ^^^ sm l (q ++ bs) ^^^ sm l (q ++ bs) = b := by rw [Nat.xor_assoc, Nat.xor_self, Nat.xor_zero]
    simp [e]
end Go.Proofs.Ytcihogbkfpcfjab
