/- Contracts of both ReadFraction: what they answer, and plain facts on the first slash. -/
import Derived.Test.YtnlnoookpcplgacDoorFtx
import Derived.Test.YtnlnoookpcplgacDoorRdn
import Derived.Lib.IndexMore
namespace Go.Proofs.YtnlnoookpcplgacDoor
open Go Go.RowKit
set_option linter.unusedVariables false

abbrev MP : Int := 1000000000000000000
theorem occ_one (l : List UInt8) (j : Nat) : Lib.occAt l [47] j = decide (l[j]? = some 47) := by
  unfold Lib.occAt
  have h : (l.drop j).head? = l[j]? := by simp
  cases hd : l.drop j with
  | nil =>
    have hn : l.length ≤ j := by simpa using hd
    rw [List.getElem?_eq_none hn]; rfl
  | cons c t =>
    rw [hd] at h
    simp at h
    rw [← h]
    by_cases hc : c = 47
    · subst hc; simp [List.isPrefixOf]
    · have h2 : ¬ (47 : UInt8) = c := fun e => hc e.symm
      simp [List.isPrefixOf, hc, h2]
theorem cut_no {l : List UInt8} (h : ∀ j : Nat, l[j]? ≠ some 47) : Lib.cut l [47] = (l, [], false) := by
  unfold Lib.cut
  rw [Lib.index_none (fun j _ => by rw [occ_one]; exact decide_eq_false (h j)), if_neg (by decide)]
theorem cut_yes {l : List UInt8} {k : Nat} (hk : l[k]? = some 47) (h : ∀ j : Nat, j < k → l[j]? ≠ some 47) : Lib.cut l [47] = (l.take k, l.drop (k + 1), true) := by
  have hlt : k < l.length := by
    rcases Nat.lt_or_ge k l.length with h' | h'
    · exact h'
    · rw [List.getElem?_eq_none h'] at hk; cases hk
  have hi := Lib.index_first (s := l) (sub := [47]) (i := k) (by omega) (by rw [occ_one]; exact decide_eq_true hk) (fun j hj => by rw [occ_one]; exact decide_eq_false (h j hj))
  unfold Lib.cut
  rw [hi, if_pos (by omega)]
  simp
theorem split_at {l : List UInt8} {k : Nat} (hk : l[k]? = some 47) : l = l.take k ++ 47 :: l.drop (k + 1) := by
  have hlt : k < l.length := by
    rcases Nat.lt_or_ge k l.length with h' | h'
    · exact h'
    · rw [List.getElem?_eq_none h'] at hk; cases hk
  have : l[k] = 47 := by rw [List.getElem?_eq_getElem hlt] at hk; exact Option.some.inj hk
  rw [← this, List.getElem_cons_drop, List.take_append_drop]

/-- What ReadFraction answers: the numerator, the denominator, and whether the text is one of a fraction. -/
def FR (l : List UInt8) : Int × Int × Bool :=
  if (Lib.cut l [47]).2.2 = true then
    (if rdOk MP (Lib.cut l [47]).1 = true ∧ rdOk MP (Lib.cut l [47]).2.1 = true ∧ fIs (rdN MP (Lib.cut l [47]).1) (rdN MP (Lib.cut l [47]).2.1) = true ∧ rdN MP (Lib.cut l [47]).2.1 ≠ 1
      then (rdN MP (Lib.cut l [47]).1, rdN MP (Lib.cut l [47]).2.1, true) else (0, 0, false))
  else if rdOk MP l = true then (rdN MP l, 1, true) else (0, 0, false)
theorem FR_no {l a : List UInt8} (h : Lib.cut l [47] = (a, [], false)) (ho : rdOk MP l = false) : FR l = (0, 0, false) := by
  unfold FR; rw [h, ho]; rfl
theorem FR_whole {l a : List UInt8} (h : Lib.cut l [47] = (a, [], false)) (ho : rdOk MP l = true) : FR l = (rdN MP l, 1, true) := by
  unfold FR; rw [h, ho]; rfl
theorem FR_yes {l a b : List UInt8} (h : Lib.cut l [47] = (a, b, true)) (h1 : rdOk MP a = true) (h2 : rdOk MP b = true) (h3 : fIs (rdN MP a) (rdN MP b) = true) (h4 : rdN MP b ≠ 1) : FR l = (rdN MP a, rdN MP b, true) := by
  unfold FR; rw [h]; exact (if_pos rfl).trans (if_pos ⟨h1, h2, h3, h4⟩)
theorem FR_not {l a b : List UInt8} (h : Lib.cut l [47] = (a, b, true)) (hn : ¬ (rdOk MP a = true ∧ rdOk MP b = true ∧ fIs (rdN MP a) (rdN MP b) = true ∧ rdN MP b ≠ 1)) : FR l = (0, 0, false) := by
  unfold FR; rw [h]; exact (if_pos rfl).trans (if_neg hn)

theorem gr_rd {l : List UInt8} {n : Int} {ok : Bool} (h : GR l n ok) : ok = rdOk MP l ∧ (ok = true → n = rdN MP l ∧ Lib.itoa n = l ∧ -1000000000000000000 ≤ n ∧ n ≤ 1000000000000000000) := by
  cases ok
  · have := (rd_no (M := MP) (l := l) (fun v a b c => by have := (h.2 v a b c).1; cases this)).2
    exact ⟨this.symm, fun e => by cases e⟩
  · obtain ⟨h1, h2, h3⟩ := h.1 rfl
    obtain ⟨r1, r2⟩ := rd_yes (M := MP) (by unfold MP; omega) h2 h3 h1
    exact ⟨r2.symm, fun _ => ⟨r1.symm, h1, h2, h3⟩⟩
theorem rd_true {M : Int} {l : List UInt8} (h : rdOk M l = true) : Lib.itoa (rdN M l) = l ∧ -M ≤ rdN M l ∧ rdN M l ≤ M := by
  unfold rdOk at h
  unfold rdN
  split at h
  · rename_i v hv
    have h' := of_decide_eq_true h
    rw [if_pos h']
    exact ⟨h'.2.2, h'.1, h'.2.1⟩
  · cases h
theorem fIs_one {n : Int} (h0 : -1000000000000000000 ≤ n) (h1 : n ≤ 1000000000000000000) : fIs n 1 = true := by
  unfold fIs
  exact decide_eq_true ⟨by omega, by omega, h0, h1, by simp⟩
theorem fT_one (n : Int) : fT n 1 = ⟨(Lib.itoa n).toArray⟩ := by unfold fT; rw [if_pos rfl]
theorem fT_list {n d : Int} (h : d ≠ 1) : (fT n d).data.toList = Lib.itoa n ++ 47 :: Lib.itoa d := by
  unfold fT
  rw [if_neg h]
  simp
theorem one_text : rdOk MP [49] = true ∧ rdN MP [49] = 1 := by
  obtain ⟨h1, h2⟩ := rd_yes (M := MP) (l := [49]) (v := 1) (by unfold MP; omega) (by unfold MP; omega) (by unfold MP; omega) (by decide +kernel)
  exact ⟨h2, h1⟩
theorem ext_drop (s : ByteArray) (k : Nat) : (s.extract (k + 1) s.size).data.toList = s.data.toList.drop (k + 1) := by
  rw [ByteArray.data_extract, Array.toList_extract, List.extract_eq_take_drop]
  refine List.take_of_length_le ?_
  rw [List.length_drop]
  exact Nat.le_refl _
theorem fT_self {n d : Int} {s : ByteArray} (h : s.data.toList = Lib.itoa n ++ 47 :: Lib.itoa d) (hd : d ≠ 1) : ((fT n d).toList == s.toList) = true := by
  have e : fT n d = s := ByteArray.ext (Array.toList_inj.1 (by rw [fT_list hd]; exact h.symm))
  rw [e]; simp
theorem fT_else {n d : Int} {s : ByteArray} (h : s.data.toList = Lib.itoa n ++ 47 :: Lib.itoa d) (hd : d = 1) : ((fT n d).toList == s.toList) = false := by
  subst hd
  rw [← beq_toListBytes, fT_one]
  cases hh : ((⟨(Lib.itoa n).toArray⟩ : ByteArray) == s)
  · rfl
  · exfalso
    have e := bytes_eq hh
    rw [← e] at h
    have e3 := congrArg List.length h
    rw [List.length_append, List.length_cons] at e3
    simp at e3
end Go.Proofs.YtnlnoookpcplgacDoor
