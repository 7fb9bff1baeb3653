/- The program's bitsOfSymbols and FlipLoss. -/
import Derived.Test.YtijmfienaoeboaaFlr
import Derived.Test.YtijmfienaoeboaaBwb
import Derived.Test.YtijmfienaoeboaaBtw
import Derived.Test.YtijmfienaoeboaaShelf
namespace Go.Proofs.Ytijmfienaoeboaa
open Go Go.RowKit Go.Maps
set_option linter.unusedVariables false

def syR (l : List ByteArray) (n : Int) : Bool := decide (0 ≤ n ∧ n ≤ (l.length : Int) - 1)
def syW (l : List ByteArray) (n : Int) : Bs := (l.getD n.toNat ByteArray.empty).data.toList
def syC (l : List ByteArray) (ss : List Int) : Bs := ss.flatMap (syW l)
def syOk (l : List ByteArray) (ss : List Int) : Bool := ss.all (syR l) && decide ((syC l ss).length ≤ 400)
theorem syC_snoc (l : List ByteArray) (ss : List Int) (k : Nat) (h : k < ss.length) : syC l (ss.take (k + 1)) = syC l (ss.take k) ++ syW l ss[k] := by
  unfold syC; rw [List.take_succ_eq_append_getElem h, List.flatMap_append]; simp
theorem syC_le (l : List ByteArray) (ss : List Int) (k : Nat) : (syC l (ss.take k)).length ≤ (syC l ss).length := by
  have e : syC l ss = syC l (ss.take k) ++ syC l (ss.drop k) := by unfold syC; rw [← List.flatMap_append, List.take_append_drop]
  rw [e, List.length_append]; omega
theorem syOk_bad {l : List ByteArray} {ss : List Int} (k : Nat) (h : k < ss.length) (hb : ¬ (0 ≤ ss[k] ∧ ss[k] ≤ (l.length : Int) - 1)) : syOk l ss = false := by
  cases e : syOk l ss
  · rfl
  · unfold syOk at e
    have e1 := (Bool.and_eq_true_iff.1 e).1
    rw [List.all_eq_true] at e1
    exact absurd (of_decide_eq_true (e1 _ (List.getElem_mem h))) hb
theorem syOk_long {l : List ByteArray} {ss : List Int} (k : Nat) (hb : ¬ (syC l (ss.take k)).length ≤ 400) : syOk l ss = false := by
  have := syC_le l ss k
  unfold syOk
  rw [decide_eq_false (by omega)]; simp
theorem syOk_yes {l : List ByteArray} {ss : List Int} (h1 : ∀ k (h : k < ss.length), 0 ≤ ss[k] ∧ ss[k] ≤ (l.length : Int) - 1) (h2 : (syC l ss).length ≤ 400) : syOk l ss = true := by
  unfold syOk
  rw [decide_eq_true h2, Bool.and_true, List.all_eq_true]
  intro x hx
  obtain ⟨k, hk, rfl⟩ := List.getElem_of_mem hx
  exact decide_eq_true (h1 k hk)
theorem syOk_parts {l : List ByteArray} {ss : List Int} (h : syOk l ss = true) : (∀ x ∈ ss, 0 ≤ x ∧ x ≤ (l.length : Int) - 1) ∧ (syC l ss).length ≤ 400 := by
  unfold syOk at h
  obtain ⟨h1, h2⟩ := Bool.and_eq_true_iff.1 h
  rw [List.all_eq_true] at h1
  exact ⟨fun x hx => of_decide_eq_true (h1 x hx), of_decide_eq_true h2⟩
theorem syW_at {l : List ByteArray} {n : Int} (h : 0 ≤ n ∧ n ≤ (l.length : Int) - 1) : ∃ k : Nat, ∃ hk : k < l.length, n = (k : Int) ∧ syW l n = l[k].data.toList := by
  refine ⟨n.toNat, by omega, by omega, ?_⟩
  unfold syW
  rw [List.getD_eq_getElem?_getD, List.getElem?_eq_getElem (show n.toNat < l.length by omega)]
  rfl
def syV (l : List ByteArray) (ss : List Int) : ByteArray := if syOk l ss then tx (syC l ss) else ⟨#[]⟩
theorem syV_no {l : List ByteArray} {ss : List Int} (h : syOk l ss = false) : syV l ss = ⟨#[]⟩ := by unfold syV; rw [h]; rfl
theorem syV_yes {l : List ByteArray} {ss : List Int} (h : syOk l ss = true) : syV l ss = tx (syC l ss) := by unfold syV; rw [h]; rfl
theorem str_cells (a : Bs) (x : ByteArray) : Lib.byteCells a ++ Lib.strCells x = Lib.byteCells (a ++ x.data.toList) := by simp [Lib.byteCells, Lib.strCells]
theorem byteC_len (a : Bs) : (Lib.byteCells a).length = a.length := by simp [Lib.byteCells]

set_option maxHeartbeats 1600000 in
set_option maxRecDepth 100000 in
theorem bitsOfSymbols_any (w : World) (v u : Value) (l : List ByteArray) (ss : List Int) (h : RdS w v l) (hu : Rd w u ss) (hc : cdOk l = true) :
    Calls Try.prog 85 #[v, u] w fun e w' => e = .returned (.tuple #[.string (syV l ss), .bool (syOk l ss)]) ∧ Below w.heap.size w w' := by
  obtain ⟨h1, h16, -, hcw⟩ := cdOk_parts hc
  have hlen := h.len
  have hlen2 := hu.len
  unfold maxLen at hlen hlen2
  obtain ⟨A, n, c, rfl, hn, -, -, r⟩ := h
  obtain ⟨A2, n2, c2, rfl, hn2, -, -, r2⟩ := hu
  rw [hn] at hlen h16 h1
  rw [hn2] at hlen2
  have HN := Lib.hid hn
  have HN2 := Lib.hid hn2
  have HR := Lib.hid r
  have HR2 := Lib.hid r2
  have HM := Lib.hid hcw
  obtain ⟨w1, hw1⟩ : ∃ w1, w1 = w.alloc (.cells #[.pointer none, .slice none 0 0] 123) := ⟨_, rfl⟩
  have HW := Lib.hid hw1
  have HB1 : Hid (Below w.heap.size w w1) := by show Below _ _ _; rw [hw1]; exact (Below.refl _ _).alloc (Nat.le_refl _) _
  have HBL : Hid (Lib.IsBuilder 123 5 w.heap.size w.heap.size (Lib.byteCells []) w1) := by show Lib.IsBuilder _ _ _ _ _ _; rw [hw1]; exact Lib.fresh_isBuilder _ _ w
  clear hn hn2 r r2 hcw hc hw1
  go_enter Try.func85, Try.ntmps85
  go_wp2_with fail
  rw [← HW.out]
  go_loopw [11] (fun i wr => ∃ k : Nat, k ≤ n2 ∧ i = .int .i64 k ∧ Lib.IsBuilder 123 5 w.heap.size w.heap.size (Lib.byteCells (syC l (ss.take k))) wr ∧ Below w.heap.size w wr ∧ (syC l (ss.take k)).length ≤ 400 ∧ ∀ j (hj : j < ss.length), j < k → 0 ≤ ss[j] ∧ ss[j] ≤ (l.length : Int) - 1) (fun i _ => n2 - (intOf i).toNat)
  case atStart => exact ⟨0, Nat.zero_le _, rfl, HBL.out, HB1.out, by simp [syC], fun j _ h => by omega⟩
  case round =>
    obtain ⟨k, hk, rfl, hbl, hb, hl400, hall⟩ := hrel
    have HL := Lib.hid hbl
    have HB := Lib.hid hb
    have HA := Lib.hid hall
    clear hbl hb hall HBL HB1 HW
    by_cases hlt : k < n2
    · obtain ⟨b2, o2, rfl, hlt2, hc2⟩ := HR2.out (by omega)
      obtain ⟨b, o, rfl, hlt0, hcc⟩ := HR.out (by omega)
      have hks : k < ss.length := by have := HN2.out; omega
      have q2 := (HB.out.cell (p := ⟨b2, o2 + k, none⟩) hlt2).trans (hc2 k hks)
      have hsn := syC_snoc l ss k hks
      have hbad := syOk_bad (l := l) k hks
      have hlong := syOk_long (l := l) (ss := ss) (k + 1)
      have hk0 : (0 : Int) ≤ (k : Int) := by omega
      have hk1 : (k : Int) < (n2 : Int) := by omega
      have HCC := Lib.hid hcc
      have HAN : Hid (0 ≤ ss[k] ∧ ss[k] ≤ (l.length : Int) - 1 → ∀ j (hj : j < ss.length), j < k + 1 → 0 ≤ ss[j] ∧ ss[j] ≤ (l.length : Int) - 1) := by
        show _ → _
        intro h0 j hj hlt'
        by_cases e : j = k
        · subst e; exact h0
        · exact HA.out j hj (by omega)
      clear hc2 hcc
      generalize ss[k] = x at *
      by_cases hx : 0 ≤ x ∧ x ≤ (l.length : Int) - 1
      rotate_left
      · have HX := Lib.hid (hbad hx)
        have HG : Hid (¬ (0 ≤ x ∧ x ≤ (n : Int) - 1)) := by show ¬ _; have := HN.out; omega
        clear hx hbad hlong hsn
        go_wp2_with fail
        refine (btw_no _ _ _ _ HG.out).mono ?_; rintro e w' ⟨rfl, rfl⟩
        go_wp2_with fail
        go_ret2
        exact ⟨by rw [syV_no HX.out, HX.out] <;> rfl, HB.out⟩
      · obtain ⟨m, hm, rfl, hw⟩ := syW_at hx
        have HAK := Lib.hid (HAN.out hx)
        have HG : Hid (0 ≤ (m : Int) ∧ (m : Int) ≤ (n : Int) - 1) := by show _ ∧ _; have := HN.out; omega
        have q1 := (HB.out.cell (p := ⟨b, o + m, none⟩) hlt0).trans (HCC.out m hm)
        obtain ⟨x1, x2, -⟩ := cwOk_parts (HM.out l[m] (List.getElem_mem hm))
        rw [hw] at hsn
        have hm0 : (0 : Int) ≤ (m : Int) := by omega
        have hm1 : (m : Int) < (n : Int) := by have := HN.out; omega
        generalize l[m] = y at *
        have HSN := Lib.hid hsn
        have hyl : y.data.toList.length = y.size := by simp
        have hcl : (syC l (ss.take (k + 1))).length = (syC l (ss.take k)).length + y.size := by rw [hsn, List.length_append, hyl]
        have HCL := Lib.hid hcl
        have HLG := Lib.hid hlong
        clear hx hbad hlong hsn hw hyl hcl HAN HA
        go_wp2_with fail
        refine (btw_yes _ _ _ _ HG.out.1 HG.out.2).mono ?_; rintro e w' ⟨rfl, rfl⟩
        go_wp2_with fail
        refine (bld_w _ _ _ y _ HL.out (by rw [byteC_len]; omega) HB.out.size).mono ?_; rintro e w2 ⟨rfl, hbl2, hb2, -⟩
        rw [str_cells, ← HSN.out] at hbl2
        have HL2 := Lib.hid hbl2
        have HB2 := Lib.hid (HB.out.trans hb2)
        clear hbl2 hb2 q1 q2
        go_wp2_with fail
        refine (bld_len _ _ _ _ HL2.out (by rw [byteC_len]; have := HCL.out; omega)).mono ?_; rintro e w' ⟨rfl, rfl⟩
        rw [byteC_len]
        by_cases h4 : (syC l (ss.take (k + 1))).length ≤ 400
        · have h5 : ¬ (400 : Int) < ((syC l (ss.take (k + 1))).length : Int) := by omega
          have H4 := Lib.hid h4
          clear h4
          go_wp2_with fail
          go_roundw
          case rel => exact ⟨k + 1, by omega, by go_num, HL2.out, HB2.out, H4.out, HAK.out⟩
          case measure => simp [intOf]; omega
        · have h5 : (400 : Int) < ((syC l (ss.take (k + 1))).length : Int) := by omega
          have HX := Lib.hid (HLG.out h4)
          clear h4
          go_wp2_with fail
          go_ret2
          exact ⟨by rw [syV_no HX.out, HX.out] <;> rfl, HB2.out⟩
    · obtain rfl : k = n2 := by omega
      have he : ss.take k = ss := List.take_of_length_le (by have := HN2.out; omega)
      have HX : Hid (syOk l ss = true) := by
        show _ = _
        exact syOk_yes (fun j hj => HA.out j hj (by have := HN2.out; omega)) (by rw [he] at hl400; exact hl400)
      rw [he] at HL
      clear he
      go_wp2_with fail
      refine (Go.Proofs.Try.Builder_String_any _ _ _ _ HL.out HB.out.size).mono ?_; rintro e w6 ⟨rfl, hb6⟩
      have HB6 := Lib.hid (HB.out.trans hb6)
      clear hb6
      go_wp2_with fail
      go_ret2
      exact ⟨by rw [syV_yes HX.out, HX.out] <;> rfl, HB6.out⟩
end Go.Proofs.Ytijmfienaoeboaa
