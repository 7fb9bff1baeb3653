/- Contracts of the program's canSend and ValidBlockCode. -/
import Derived.Test.YtjmaapbodacggaaBv
namespace Go.Proofs.Ytjmaapbodacggaa
open Go Go.RowKit Go.Maps
set_option linter.unusedVariables false

def allW (wd disp : Int) (l : List ByteArray) : Bool := l.all (wordOk wd disp)
theorem allW_nil (wd disp : Int) : allW wd disp [] = true := rfl
theorem allW_succ (wd disp : Int) (l : List ByteArray) (k : Nat) (h : k < l.length) : allW wd disp (l.take (k + 1)) = (allW wd disp (l.take k) && wordOk wd disp l[k]) := by
  unfold allW; rw [List.take_succ_eq_append_getElem h, List.all_append]; simp
theorem wordsOk_f (wd disp : Int) (l : List ByteArray) (k : Nat) (h : k < l.length) (hb : wordOk wd disp l[k] = false) : wordsOk wd disp l = false :=
  wordsOk_bad wd disp l k h (by rw [hb]; rfl)
/-- What canSend answers. -/
def csOk (d : Nat) (wd disp : Int) (l : List ByteArray) : Bool := decide (l.length = 2 ^ d) && wordsOk wd disp l

set_option maxHeartbeats 1600000 in
set_option maxRecDepth 100000 in
theorem canSend_any (w : World) (d : Nat) (wd s : Int) (A1 A2 : Option Addr) (n1 n2 k1 k2 : Nat) (v : Value) (l : List ByteArray) (d1 : 1 ≤ d) (d2 : d ≤ 6) (s0 : -1 ≤ s) (s1 : s ≤ 1) (h : RdS w v l) (hm : ∀ t ∈ l, t.size ≤ 4000000) :
    Calls Try.prog 137 #[.agg #[.int .i64 d, .int .i64 wd, .slice A1 n1 k1, .slice A2 n2 k2], .int .i64 s, v] w fun e w' => e = .returned (.bool (csOk d wd (-s - s) l)) ∧ Below w.heap.size w w' := by
  have hpw : (2 : Int) ≤ 2 ^ d ∧ (2 : Int) ^ d ≤ 64 ∧ ((2 ^ d : Nat) : Int) = (2 : Int) ^ d := by
    have e1 : d = 1 ∨ d = 2 ∨ d = 3 ∨ d = 4 ∨ d = 5 ∨ d = 6 := by omega
    rcases e1 with rfl | rfl | rfl | rfl | rfl | rfl <;> decide
  obtain ⟨p1, p2, p3⟩ := hpw
  have hlen := h.len
  unfold maxLen at hlen
  obtain ⟨W1, hW1⟩ : ∃ W1, W1 = w.alloc (.cells #[.int .i64 d, .int .i64 wd, .slice A1 n1 k1, .slice A2 n2 k2] 36) := ⟨_, rfl⟩
  have hB0 : Below w.heap.size w W1 := by rw [hW1]; exact (Below.refl _ _).alloc (Nat.le_refl _) _
  have hbk : Bk W1 w.heap.size (bcV d wd (.slice A1 n1 k1) (.slice A2 n2 k2)) := by rw [hW1]; exact Bk.new w (bcV d wd (.slice A1 n1 k1) (.slice A2 n2 k2)) _ _ rfl
  have HH := Lib.hid h
  obtain ⟨A, n, c, rfl, hn, -, -, r⟩ := h
  rw [hn] at hlen
  have HN := Lib.hid hn
  have HR := Lib.hid r
  have HM := Lib.hid hm
  have HB0 := Lib.hid hB0
  have BK0 := Lib.hid hbk
  clear hB0 hbk
  have HW := Lib.hid hW1
  clear hW1
  by_cases g1 : n = 2 ^ d
  rotate_left
  · have HE : Hid (csOk d wd (-s - s) l = false) := by show _ = _; unfold csOk; rw [HN.out, decide_eq_false g1]; rfl
    have t1 : ((n : Int) != 2 ^ d) = true := bne_t (by omega)
    clear g1 p3 hn r hm
    go_enter Try.func137, Try.ntmps137
    go_wp2_with fail
    go_ret
    exact ⟨ret_bool HE.out.symm, (Below.refl _ _).alloc (Nat.le_refl _) _⟩
  have HX : Hid (csOk d wd (-s - s) l = wordsOk wd (-s - s) l) := by show _ = _; unfold csOk; rw [HN.out, decide_eq_true g1]; rfl
  have t1 : ((n : Int) != 2 ^ d) = false := bne_f (by omega)
  have hnl : n ≤ 64 := by omega
  clear g1 p3 hn r hm
  have HC := Lib.hid (fun W => change_any s s0 s1 W)
  go_enter Try.func137, Try.ntmps137
  go_wp2_with fail
  rw [← HW.out]
  go_loopw [19] (fun i wr => ∃ k : Nat, k ≤ n ∧ i = .int .i64 k ∧ Below w.heap.size w wr ∧ Bk wr w.heap.size (bcV d wd (.slice A1 n1 k1) (.slice A2 n2 k2)) ∧ allW wd (-s - s) (l.take k) = true) (fun i _ => n - (intOf i).toNat)
  case atStart => exact ⟨0, Nat.zero_le _, rfl, HB0.out, BK0.out, allW_nil _ _⟩
  case round =>
    obtain ⟨k, hk, rfl, hb, hbk, hf⟩ := hrel
    have HB := Lib.hid hb
    have BK := Lib.hid hbk
    clear hb hbk HB0 BK0 HW
    by_cases hlt : k < n
    · obtain ⟨b, o, rfl, hlt0, hc⟩ := HR.out (by omega)
      have hkl : k < l.length := by have := HN.out; omega
      have hc0 := (HB.out.cell (p := ⟨b, o + k, none⟩) hlt0).trans (hc k hkl)
      have hx := HM.out l[k] (List.getElem_mem hkl)
      have hs := allW_succ wd (-s - s) l k hkl
      rw [hf, Bool.true_and] at hs
      have hbad := wordsOk_f wd (-s - s) l k hkl
      rw [← HX.out] at hbad
      have hk0 : (0 : Int) ≤ (k : Int) := by omega
      have hk1 : (k : Int) < (n : Int) := by omega
      have hxs : l[k].size ≤ 9223372036854775807 := by omega
      clear hc hf
      generalize l[k] = x at *
      have HD := Lib.hid (fun W => dis_impl x W (by unfold maxLen; omega))
      clear hx
      unfold wordOk at hs hbad
      cases hb : isB x.data.toList
      · rw [hb] at HD hbad
        have HE := Lib.hid (hbad rfl)
        clear hs hbad hb
        generalize disA x.data.toList = D at *
        go_wp2_with fail
        refine (HD.out _).mono ?_; rintro e w1 ⟨rfl, hb1⟩
        have HB1 := Lib.hid (HB.out.trans (hb1.mono HB.out.size))
        have BK1 := Lib.hid (BK.out.keep hb1)
        have c1 := BK1.out.c 1 _ rfl
        clear hb1 HB BK
        go_wp2_with fail
        go_ret
        exact ⟨ret_bool HE.out.symm, HB1.out⟩
      · rw [hb] at HD hs hbad
        have hda : disA x.data.toList = disL x.data.toList := by unfold disA; rw [if_pos hb]
        rw [hda] at HD
        clear hda hb
        generalize disL x.data.toList = D at *
        by_cases hsz : (x.size : Int) = wd
        · rw [decide_eq_true hsz] at hs hbad
          have u1 : ((x.size : Int) != wd) = false := bne_f hsz
          have HSZ := Lib.hid hsz
          clear hsz
          by_cases hD0 : D = 0
          · rw [decide_eq_true hD0] at hs
            have u2 : (D != 0) = false := bne_f hD0
            have HG : Hid (allW wd (-s - s) (l.take (k + 1)) = true) := hs
            clear hD0 hs hbad
            go_wp2_with fail
            refine (HD.out _).mono ?_; rintro e w1 ⟨rfl, hb1⟩
            have HB1 := Lib.hid (HB.out.trans (hb1.mono HB.out.size))
            have BK1 := Lib.hid (BK.out.keep hb1)
            have c1 := BK1.out.c 1 _ rfl
            clear hb1 HB BK
            go_wp2_with fail
            go_roundw
            case rel => exact ⟨k + 1, by omega, by go_num, HB1.out, BK1.out, HG.out⟩
            case measure => simp [intOf]; omega
          · rw [decide_eq_false hD0] at hs hbad
            have u2 : (D != 0) = true := bne_t hD0
            clear hD0
            by_cases hDd : D = -s - s
            · rw [decide_eq_true hDd] at hs
              have u3 : (D != -s - s) = false := bne_f hDd
              have HG : Hid (allW wd (-s - s) (l.take (k + 1)) = true) := hs
              have HDD := Lib.hid hDd
              clear hDd hs hbad
              go_wp2_with fail
              refine (HD.out _).mono ?_; rintro e w1 ⟨rfl, hb1⟩
              have HB1 := Lib.hid (HB.out.trans (hb1.mono HB.out.size))
              have BK1 := Lib.hid (BK.out.keep hb1)
              have c1 := BK1.out.c 1 _ rfl
              clear hb1 HB BK
              go_wp2_with fail
              refine (HC.out _).mono ?_; rintro e w' ⟨rfl, rfl⟩
              go_wp2_with fail
              go_roundw
              case rel => exact ⟨k + 1, by omega, by go_num, HB1.out, BK1.out, HG.out⟩
              case measure => simp [intOf]; omega
            · rw [decide_eq_false hDd] at hbad
              have u3 : (D != -s - s) = true := bne_t hDd
              have HE := Lib.hid (hbad rfl)
              clear hDd hs hbad
              go_wp2_with fail
              refine (HD.out _).mono ?_; rintro e w1 ⟨rfl, hb1⟩
              have HB1 := Lib.hid (HB.out.trans (hb1.mono HB.out.size))
              have BK1 := Lib.hid (BK.out.keep hb1)
              have c1 := BK1.out.c 1 _ rfl
              clear hb1 HB BK
              go_wp2_with fail
              refine (HC.out _).mono ?_; rintro e w' ⟨rfl, rfl⟩
              go_wp2_with fail
              go_ret
              exact ⟨ret_bool HE.out.symm, HB1.out⟩
        · rw [decide_eq_false hsz] at hbad
          have u1 : ((x.size : Int) != wd) = true := bne_t hsz
          have HE := Lib.hid (hbad rfl)
          clear hsz hs hbad
          go_wp2_with fail
          refine (HD.out _).mono ?_; rintro e w1 ⟨rfl, hb1⟩
          have HB1 := Lib.hid (HB.out.trans (hb1.mono HB.out.size))
          have BK1 := Lib.hid (BK.out.keep hb1)
          have c1 := BK1.out.c 1 _ rfl
          clear hb1 HB BK
          go_wp2_with fail
          go_ret
          exact ⟨ret_bool HE.out.symm, HB1.out⟩
    · obtain rfl : k = n := by omega
      rw [List.take_of_length_le (by have := HN.out; omega)] at hf
      have hsz := wM_size (H := Unit) k l HN.out
      obtain ⟨z1, z2⟩ := hsz
      have HRS : Hid ((((size (wM l : DataW Unit) : Nat) : Int) == (k : Int)) = csOk d wd (-s - s) l) := by
        show _ = _
        rw [HX.out]
        unfold wordsOk
        rw [show l.all (wordOk wd (-s - s)) = true from hf, Bool.true_and]
        by_cases e : l.Nodup
        · rw [decide_eq_true e, beq_t (by have := z2.2 e; omega)]
        · rw [decide_eq_false e, beq_f (fun e' => e (z2.1 (by omega)))]
      have CD := Lib.hid (fun W h => dataOf_any W (.slice A k c) l h (fun t ht => HM.out t ht) (by have := HN.out; omega))
      clear hf z1 z2 t1
      go_wp2_with fail
      refine (CD.out _ (HH.out.keep HB.out)).mono ?_; rintro e w1 ⟨rfl, ho1, hb1⟩
      have HO1 := Lib.hid ho1
      have HB1 := Lib.hid (HB.out.trans (hb1.mono HB.out.size))
      clear ho1 hb1
      go_wp2_with (at_len; refine wpList_len_own _ rfl _ 131 rfl 9 2 Try.underlying131 _ wr.heap.size l.length _ rfl HO1.out ?_)
      go_wp2_with fail
      go_ret
      exact ⟨ret_bool HRS.out, HB1.out⟩
end Go.Proofs.Ytjmaapbodacggaa
