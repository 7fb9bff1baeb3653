/- What FnScrambled asks of what the functions answer, plain. -/
import Derived.Test.YtnpigefbdadjfaaAds
import Derived.Test.YtnpigefbdadjfaaFkD
namespace Go.Proofs.Ytnpigefbdadjfaa
set_option linter.unusedVariables false
open Go Go.RowKit

theorem scF_givenQ (l : List Int) (q bs : List Nat) : (scF true l q bs).1 = q ++ bs ∧ (scF true l q bs).2 = (List.range bs.length).map fun i => bs.getD i 0 ^^^ sm l (q ++ bs.take i) := by
  refine snoc_ind (P := fun bs => (scF true l q bs).1 = q ++ bs ∧ (scF true l q bs).2 = (List.range bs.length).map fun i => bs.getD i 0 ^^^ sm l (q ++ bs.take i)) ⟨by simp [scF], by simp [scF]⟩ ?_ bs
  intro bs b ⟨h1, h2⟩
  rw [scF_snoc]
  unfold scG
  refine ⟨by simp [h1], ?_⟩
  show (scF true l q bs).2 ++ [b ^^^ sm l (scF true l q bs).1] = _
  rw [h1, h2, List.length_append, List.length_singleton, List.range_succ, List.map_append]
  congr 1
  · apply List.map_congr_left
    intro i hi
    have hi := List.mem_range.1 hi
    rw [show (bs ++ [b]).getD i 0 = bs.getD i 0 from by rw [List.getD, List.getElem?_append_left hi, ← List.getD], List.take_append_of_le_length (by omega)]
  · simp [List.getD]
theorem sc_fwdQ (l : List Int) (q bs : List Nat) : (scF true l q (scF false l q bs).2).2 = bs := by
  refine snoc_ind (P := fun bs => (scF true l q (scF false l q bs).2).2 = bs) (by simp [scF]) ?_ bs
  intro bs b ih
  have h1 := scF_made l q bs
  have h2 := (scF_givenQ l q (scF false l q bs).2).1
  rw [scF_snoc]
  show (scF true l q ((scF false l q bs).2 ++ [b ^^^ sm l (scF false l q bs).1])).2 = _
  rw [scF_snoc]
  show (scF true l q (scF false l q bs).2).2 ++ [(b ^^^ sm l (scF false l q bs).1) ^^^ sm l (scF true l q (scF false l q bs).2).1] = _
  rw [ih, h2, h1, Nat.xor_assoc, Nat.xor_self, Nat.xor_zero]
theorem getD_rightQ (a b : List Nat) (j : Nat) (h : a.length ≤ j) : (a ++ b).getD j 0 = b.getD (j - a.length) 0 := by rw [List.getD, List.getElem?_append_right h, ← List.getD]
theorem given_atQ (l : List Int) (q bs : List Nat) (i : Nat) (h : i < bs.length) : (scF true l q bs).2.getD i 0 = bs.getD i 0 ^^^ sm l (q ++ bs.take i) := by
  rw [(scF_givenQ l q bs).2, List.getD, List.getElem?_map, List.getElem?_range h]; rfl
theorem smF_same {P Q : List Nat} : ∀ (l : List Int) (a : Nat), (∀ t ∈ l, bk P t = bk Q t) → smF l P a = smF l Q a
  | [], a, _ => rfl
  | t :: l, a, h => by
    show smF l P (a ^^^ bk P t) = smF l Q (a ^^^ bk Q t)
    rw [h t (List.mem_cons_self ..)]
    exact smF_same l _ (fun t ht => h t (List.mem_cons_of_mem _ ht))
/-- Behind the width, what was there before the bits does not matter. -/
theorem sm_lock {l : List Int} {q r C : List Nat} {wd : Nat} (hl : ∀ t ∈ l, 1 ≤ t ∧ t ≤ (wd : Int)) (hqr : q.length = r.length) (i : Nat) (hi : i ≤ C.length) (hw : wd ≤ i) :
    sm l (q ++ C.take i) = sm l (r ++ C.take i) :=
  smF_same l 0 (fun t ht => by
    obtain ⟨ht1, ht2⟩ := hl t ht
    unfold bk
    rw [List.length_append, List.length_append, List.length_take, Nat.min_eq_left hi, getD_rightQ _ _ _ (by omega), getD_rightQ _ _ _ (by omega), hqr])
theorem ba_eta (G : ByteArray) : (⟨G.data.toList.toArray⟩ : ByteArray) = G := by cases G; rfl
theorem isB_tx {M : List Nat} (h : bitsN M) (hl : M.length ≤ 400) : isB (tx M) = true := by
  unfold isB
  rw [decide_eq_true (by rw [tx_len]; exact hl), tx_inR h]; rfl
theorem scrambled_row {L : List Int} {s G : ByteArray} (h : scOk L s.data.toList = true) (hG : isB G.data.toList = true) :
    ∃ A C : ByteArray, (adV L s.data.toList G.data.toList = A ∧ scbOk L s.data.toList G.data.toList = true ∧ A.size = G.size ∧ adV L s.data.toList A.data.toList = G ∧ scbOk L s.data.toList A.data.toList = true) ∧
      (scbV false L s.data.toList G.data.toList = C ∧ C.size = G.size ∧ scbV true L s.data.toList C.data.toList = G ∧ scbOk L s.data.toList C.data.toList = true) ∧
      ∀ T : ByteArray, isB T.data.toList = true → T.size = s.size → ∃ E : ByteArray, scbV true L T.data.toList C.data.toList = E ∧ scbOk L T.data.toList C.data.toList = true ∧ E.size = G.size ∧ ∀ i (h1 : i < E.size) (h2 : i < G.size), s.size ≤ i → E[i] = G[i] := by
  obtain ⟨ht, hsB, hw⟩ := scOk_parts h
  obtain ⟨g4, gi⟩ := isB_parts hG
  have gl : G.data.toList.length = G.size := rfl
  have sl : s.data.toList.length = s.size := rfl
  obtain ⟨-, hsi⟩ := isB_parts hsB
  have hq := stQ_bits hsi
  have hB := gb_bits gi
  have k1 : scbOk L s.data.toList G.data.toList = true := by unfold scbOk; rw [h, hG]; rfl
  have hlt : ∀ t ∈ L, 1 ≤ t ∧ t ≤ (s.size : Int) := by
    intro t ht'
    obtain ⟨j, hj, rfl⟩ := List.getElem_of_mem ht'
    have h3 := tpOk_le ht j hj
    omega
  have v1 := adV_yes k1
  unfold adL at v1
  have K0 := kb_bits (l := L) hq G.data.toList.length
  have K1 := kb_len (l := L) hq G.data.toList.length
  obtain ⟨K, hK⟩ : ∃ K, K = kb L (stQ s.data.toList) G.data.toList.length := ⟨_, rfl⟩
  rw [← hK] at v1 K0 K1
  have m0 := mx_bits K0 hB G.data.toList.length
  have ml : (mx K (gb G.data.toList) G.data.toList.length).length = G.data.toList.length := by rw [mx_len]; exact K1
  have kA : isB (tx (mx K (gb G.data.toList) G.data.toList.length)) = true := isB_tx m0 (by omega)
  have k2 : scbOk L s.data.toList (tx (mx K (gb G.data.toList) G.data.toList.length)) = true := by unfold scbOk; rw [h, kA]; rfl
  have v2 := adV_yes k2
  unfold adL at v2
  rw [gb_tx m0, tx_len, ml, ← hK] at v2
  have back : mx K (mx K (gb G.data.toList) G.data.toList.length) G.data.toList.length = gb G.data.toList := by
    refine List.ext_getElem (by rw [mx_len, gb_len]; exact K1) fun i h1 h2 => ?_
    have hi : i < K.length := by rw [mx_len] at h1; exact h1
    have e1 : (mx K (mx K (gb G.data.toList) G.data.toList.length) G.data.toList.length).getD i 0 = (gb G.data.toList).getD i 0 := by
      rw [mx_get _ _ _ _ hi, if_pos (by omega), mx_get _ _ _ _ hi, if_pos (by omega), ← Nat.xor_assoc, Nat.xor_self, Nat.zero_xor]
    rw [List.getD, List.getElem?_eq_getElem h1, List.getD, List.getElem?_eq_getElem h2] at e1
    exact e1
  rw [back, tx_gb gi, ba_eta] at v2
  obtain ⟨-, oc, -, lc⟩ := scF_ok false L _ hq _ hB
  have v3 := scbV_yes (d := false) k1
  unfold scbL at v3
  have fw := sc_fwdQ L (stQ s.data.toList) (gb G.data.toList)
  obtain ⟨C, hC⟩ : ∃ C, C = (scF false L (stQ s.data.toList) (gb G.data.toList)).2 := ⟨_, rfl⟩
  rw [← hC] at v3 oc lc fw
  rw [gb_len] at lc
  have kC : isB (tx C) = true := isB_tx oc (by omega)
  have k3 : scbOk L s.data.toList (tx C) = true := by unfold scbOk; rw [h, kC]; rfl
  have v4 := scbV_yes (d := true) k3
  unfold scbL at v4
  rw [gb_tx oc, fw, tx_gb gi, ba_eta] at v4
  refine ⟨⟨(tx (mx K (gb G.data.toList) G.data.toList.length)).toArray⟩, ⟨(tx C).toArray⟩, ⟨v1, k1, ?_, v2, k2⟩, ⟨v3, ?_, v4, k3⟩, fun T hT hTs => ?_⟩
  · show (tx _).toArray.size = _
    rw [List.size_toArray, tx_len, ml, gl]
  · show (tx _).toArray.size = _
    rw [List.size_toArray, tx_len, lc, gl]
  · have tl : T.data.toList.length = T.size := rfl
    have hTk : scOk L T.data.toList = true := by
      unfold scOk
      rw [ht, hT, decide_eq_true (by omega)]; rfl
    have k5 : scbOk L T.data.toList (tx C) = true := by unfold scbOk; rw [hTk, kC]; rfl
    have v5 := scbV_yes (d := true) k5
    unfold scbL at v5
    rw [gb_tx oc] at v5
    have l5 : (scF true L (stQ T.data.toList) C).2.length = G.size := by rw [(scF_givenQ L _ _).2]; simp [lc, gl]
    obtain ⟨-, o5, -, -⟩ := scF_ok true L _ (stQ_bits (isB_parts hT).2) _ oc
    refine ⟨_, v5, k5, by show (tx _).toArray.size = _; rw [List.size_toArray, tx_len, l5], fun i h1 h2 hi => ?_⟩
    have e1 : (scF true L (stQ T.data.toList) C).2.getD i 0 = (gb G.data.toList).getD i 0 := by
      rw [← fw, given_atQ _ _ _ _ (by omega), given_atQ _ _ _ _ (by omega), sm_lock (q := stQ T.data.toList) (r := stQ s.data.toList) (C := C) (wd := s.size) hlt (by rw [stQ_len, stQ_len]; omega) i (by omega) hi]
    have e2 : (tx (scF true L (stQ T.data.toList) C).2).getD i 0 = (tx (gb G.data.toList)).getD i 0 := by
      unfold tx
      rw [List.getD, List.getElem?_map, List.getD, List.getElem?_map]
      rw [List.getD, List.getD, List.getElem?_eq_getElem (by rw [l5]; exact h2), List.getElem?_eq_getElem (by rw [gb_len]; exact h2)] at e1
      rw [List.getElem?_eq_getElem (by rw [l5]; exact h2), List.getElem?_eq_getElem (by rw [gb_len]; exact h2)]
      have e1' : (scF true L (stQ T.data.toList) C).2[i]'(by rw [l5]; exact h2) = (gb G.data.toList)[i]'(by rw [gb_len]; exact h2) := e1
      rw [e1']
    rw [tx_gb gi] at e2
    show (tx (scF true L (stQ T.data.toList) C).2).toArray[i]'h1 = G.data[i]'h2
    rw [List.getD, List.getElem?_eq_getElem (by rw [tx_len, l5]; exact h2), List.getD, List.getElem?_eq_getElem (show i < G.data.toList.length from h2)] at e2
    have e3 : (tx (scF true L (stQ T.data.toList) C).2)[i]'(by rw [tx_len, l5]; exact h2) = G.data.toList[i]'h2 := e2
    rw [List.getElem_toArray, e3, Array.getElem_toList]
end Go.Proofs.Ytnpigefbdadjfaa
