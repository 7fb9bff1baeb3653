/- The model's FlipLoss. -/
import Derived.Test.YtijmfienaoeboaaFlj
namespace Go.Proofs.Ytijmfienaoeboaa
open Go Go.RowKit Go.Maps
set_option linter.unusedVariables false

theorem cm_two {l : List ByteArray} (h : cmOk l = true) : 2 ≤ l.length := by
  have hc := cm_cd h
  obtain ⟨c1, -, -, c4⟩ := cdOk_parts hc
  unfold cmOk at h
  have hk := of_decide_eq_true (Bool.and_eq_true_iff.1 (Bool.and_eq_true_iff.1 h).2).2
  rcases Nat.lt_or_ge l.length 2 with h2 | h2
  · exfalso
    cases l with
    | nil => simp at c1
    | cons x t =>
      cases t with
      | nil =>
        have hx := (cwOk_parts (c4 x (by simp))).1
        have : 2 ^ (12 - x.size) ≤ 2 ^ 11 := Nat.pow_le_pow_right (by decide) (by omega)
        simp [kr] at hk
        omega
      | cons y t => simp at h2; omega
  · exact h2
theorem syC_ge {l : List ByteArray} {ss : List Int} (hc : cdOk l = true) (h : ∀ x ∈ ss, 0 ≤ x ∧ x ≤ (l.length : Int) - 1) : ss.length ≤ (syC l ss).length := by
  induction ss with
  | nil => simp
  | cons a t ih =>
    have ih := ih (fun x hx => h x (by simp [hx]))
    obtain ⟨k, hk, -, ew⟩ := syW_at (h a (by simp))
    have h1 := (cwOk_parts ((cdOk_parts hc).2.2.2 l[k] (List.getElem_mem hk))).1
    have e : syC l (a :: t) = syW l a ++ syC l t := rfl
    rw [e, ew, List.length_append, List.length_cons]
    have : l[k].data.toList.length = l[k].size := by simp
    omega
theorem sy_many {l : List ByteArray} {ss : List Int} (hc : cdOk l = true) (h : 400 < ss.length) : syOk l ss = false := by
  cases e : syOk l ss
  · rfl
  · obtain ⟨h1, h2⟩ := syOk_parts e
    have := syC_ge hc h1
    omega
theorem tx_addS (a : Bs) (y : ByteArray) : tx a ++ y = tx (a ++ y.data.toList) := by
  apply toList_inj
  simp [tx]

set_option maxHeartbeats 1600000 in
theorem l05Complete_any (W : World) (v : Value) (l : List ByteArray) (hW : RdS W v l) (hc : cdOk l = true) :
    Calls Try.prog 75 #[v] W fun e w' => e = .returned (.bool (cmOk l)) ∧ ∃ q, w' = W.drewN q := by
  have HP := Lib.hid (l05Prefix_any W v l hW hc)
  have HK := Lib.hid (fun W' h => l05Kraft_any W' v l h hc)
  have HHW := Lib.hid hW
  have HC1 := Lib.hid (fun h2 h3 => cmOk_t hc h2 h3)
  have HC2 := Lib.hid (@cmOk_p l)
  have HC3 := Lib.hid (@cmOk_k l)
  clear hc hW
  cases hp : preB (pth l)
  · rw [hp] at HP
    have HE := Lib.hid (HC2.out hp)
    clear hp
    go_enter Try.func75, Try.ntmps75
    go_wp2_with fail
    refine HP.out.mono ?_; rintro e w' ⟨rfl, q, rfl⟩
    go_wp2_with fail
    go_ret
    exact ⟨ret_bool HE.out.symm, q, rfl⟩
  · rw [hp] at HP
    by_cases hk : kr l = 4096
    · have HE := Lib.hid (HC1.out hp hk)
      rw [hk] at HK
      clear hp hk
      go_enter Try.func75, Try.ntmps75
      go_wp2_with fail
      refine HP.out.mono ?_; rintro e w' ⟨rfl, q, rfl⟩
      go_wp2_with fail
      refine (HK.out _ (HHW.out.drewN q)).mono ?_; rintro e w' ⟨rfl, rfl⟩
      go_wp2_with fail
      go_ret
      exact ⟨ret_bool HE.out.symm, q, rfl⟩
    · have HE := Lib.hid (HC3.out hk)
      have s1 : (((kr l : Nat) : Int) == 4096) = false := beq_f (by omega)
      clear hp hk
      generalize kr l = K at *
      go_enter Try.func75, Try.ntmps75
      go_wp2_with fail
      refine HP.out.mono ?_; rintro e w' ⟨rfl, q, rfl⟩
      go_wp2_with fail
      refine (HK.out _ (HHW.out.drewN q)).mono ?_; rintro e w' ⟨rfl, rfl⟩
      go_wp2_with fail
      go_ret
      exact ⟨ret_bool HE.out.symm, q, rfl⟩

theorem ex_take (S : Bs) (a : Nat) (h : a ≤ S.length) : (tx S).extract 0 a = tx (S.take a) := by
  apply toList_inj
  simp [tx, ByteArray.data_extract]
theorem ex_drop (S : Bs) (a : Nat) : (tx S).extract a (tx S).size = tx (S.drop a) := by
  apply toList_inj
  rw [tx_size]
  simp [tx, ByteArray.data_extract]
  rw [List.take_of_length_le (by simp)]
theorem oth_tx {c : UInt8} (h : c = 48 ∨ c = 49) : (⟨(othX (tx [c]).data.toList).toArray⟩ : ByteArray) = tx [oth c] := by
  rcases h with rfl | rfl <;> rfl
end Go.Proofs.Ytijmfienaoeboaa
