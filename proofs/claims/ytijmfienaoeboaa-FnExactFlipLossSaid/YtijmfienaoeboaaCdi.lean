/- Both IsCode. -/
import Derived.Test.YtijmfienaoeboaaCdP
import Derived.Test.YtijmfienaoeboaaIdx
import Derived.Test.YtijmfienaoeboaaDof
import Derived.Test.YtijmfienaoeboaaBtI
namespace Go.Proofs.Ytijmfienaoeboaa
open Go Go.RowKit Go.Maps
set_option linter.unusedVariables false

set_option maxHeartbeats 1600000 in
set_option maxRecDepth 100000 in
theorem l05Is_any (w : World) (v : Value) (l : List ByteArray) (h : RdS w v l) (hm : ∀ s ∈ l, s.size ≤ 4000000) :
    Calls Try.prog 64 #[v] w fun e w' => e = .returned (.bool (cdOk l)) ∧ ∃ q, w' = w.drewN q := by
  have hlen := h.len
  unfold maxLen at hlen
  have HH := Lib.hid h
  obtain ⟨A, n, c, rfl, hn, hnc, -, r⟩ := h
  rw [hn] at hlen
  have HN := Lib.hid hn
  have HR := Lib.hid r
  have HM := Lib.hid hm
  have hE : cdOk l = (decide (1 ≤ n) && (decide (n ≤ 16) && cdPre l)) := by unfold cdOk; rw [hn]
  clear hn r hm
  by_cases h1 : 1 ≤ n
  rotate_left
  · have HE : Hid (cdOk l = false) := by show _ = _; rw [hE, decide_eq_false h1]; rfl
    clear hE
    go_enter Try.func64, Try.ntmps64
    go_wp2_with fail
    go_ret
    exact ⟨ret_bool HE.out.symm, 0, rfl⟩
  by_cases h2 : n ≤ 16
  rotate_left
  · have HE : Hid (cdOk l = false) := by show _ = _; rw [hE, decide_eq_false h2]; simp
    clear hE
    go_enter Try.func64, Try.ntmps64
    go_wp2_with fail
    go_ret
    exact ⟨ret_bool HE.out.symm, 0, rfl⟩
  rw [decide_eq_true h1, decide_eq_true h2, Bool.true_and, Bool.true_and] at hE
  have HE := Lib.hid hE
  clear hE
  go_enter Try.func64, Try.ntmps64
  go_wp2_with fail
  go_loopw [3] (fun i wr => ∃ k q : Nat, k ≤ n ∧ i = .int .i64 k ∧ wr = w.drewN q ∧ cdPre (l.take k) = true) (fun i _ => n - (intOf i).toNat)
  case atStart => exact ⟨0, 0, Nat.zero_le _, rfl, rfl, by rw [List.take_zero]; exact cdPre_nil⟩
  case round =>
    obtain ⟨k, q, hk, rfl, rfl, hf⟩ := hrel
    by_cases hlt : k < n
    · obtain ⟨b, o, rfl, hlt0, hc⟩ := HR.out (by omega)
      have hkl : k < l.length := by have := HN.out; omega
      have hc0 := hc k hkl
      have hs := cdPre_take_succ l k hkl
      rw [hf, Bool.true_and] at hs
      have hbad := cdPre_bad l k hkl
      rw [← HE.out] at hbad
      have hx := HM.out l[k] (List.getElem_mem hkl)
      have RP := Lib.hid (HH.out.take k hk)
      have hk0 : (0 : Int) ≤ (k : Int) := by omega
      have hk1 : (k : Int) < (n : Int) := by omega
      have hk2 : (k : Int) ≤ (c : Int) := by omega
      have hxs : l[k].size ≤ 9223372036854775807 := by omega
      clear hc HR HM HH hf
      rw [← fnd_nonneg] at hs hbad
      generalize l[k] = x at *
      have HB := Lib.hid (fun W => l01Bits_any x W (by unfold maxLen; omega))
      have HI := Lib.hid (fun W h => l03Index_any W (.slice (some ⟨b, o, none⟩) k c) (l.take k) x h)
      unfold cwOk at hs hbad
      clear hx
      generalize fnd (l.take k) x 0 = F at *
      by_cases g1 : 1 ≤ x.size
      rotate_left
      · rw [decide_eq_false g1] at hbad
        have u1 : decide ((x.size : Int) < 1) = true := decide_eq_true (by omega)
        have u2 : decide (x.size < 1) = true := decide_eq_true (by omega)
        have u3 : decide (x.size = 0) = true := decide_eq_true (by omega)
        have HX := Lib.hid (hbad (by simp))
        clear hs hbad HB HI
        go_wp2_with fail
        go_quiet (fail)
        all_goals go_wp2_with fail
        all_goals go_ret
        all_goals exact ⟨ret_bool HX.out.symm, _, World.drewN_drewN _ _ _⟩
      by_cases g2 : x.size ≤ 12
      rotate_left
      · rw [decide_eq_false g2] at hbad
        have u1 : decide ((x.size : Int) < 1) = false := decide_eq_false (by omega)
        have u2 : decide (x.size < 1) = false := decide_eq_false (by omega)
        have u3 : decide (x.size = 0) = false := decide_eq_false (by omega)
        have u4 : decide ((12 : Int) < (x.size : Int)) = true := decide_eq_true (by omega)
        have u5 : decide (12 < x.size) = true := decide_eq_true (by omega)
        have HX := Lib.hid (hbad (by simp))
        clear hs hbad HB HI
        go_wp2_with fail
        go_quiet (fail)
        all_goals go_wp2_with fail
        all_goals go_ret
        all_goals exact ⟨ret_bool HX.out.symm, _, World.drewN_drewN _ _ _⟩
      rw [decide_eq_true g1, decide_eq_true g2, Bool.true_and, Bool.true_and] at hs hbad
      have u1 : decide ((x.size : Int) < 1) = false := decide_eq_false (by omega)
      have u2 : decide (x.size < 1) = false := decide_eq_false (by omega)
      have u3 : decide (x.size = 0) = false := decide_eq_false (by omega)
      have u4 : decide ((12 : Int) < (x.size : Int)) = false := decide_eq_false (by omega)
      have u5 : decide (12 < x.size) = false := decide_eq_false (by omega)
      cases hb : isB x.data.toList
      · rw [hb] at HB hbad
        have HX := Lib.hid (hbad rfl)
        clear hs hbad HI hb
        go_wp2_with fail
        go_quiet ((go_at_call 78; exact quietX_leftq (HB.out _)))
        all_goals go_wp2_with fail
        all_goals go_ret
        all_goals exact ⟨ret_bool HX.out.symm, _, World.drewN_drewN _ _ _⟩
      · rw [hb] at HB hs hbad
        clear hb
        by_cases hF : 0 ≤ F
        · rw [decide_eq_true hF] at hbad
          have HX := Lib.hid (hbad rfl)
          have s3 : decide (0 ≤ F) = true := decide_eq_true hF
          clear hs hbad
          go_wp2_with fail
          go_quiet ((first
            | (go_at_call 78; exact quietX_leftq (HB.out _))
            | (go_at_call 118; exact quietX_leftq (HI.out _ (RP.out.drewN _)))
            ))
          all_goals go_wp2_with fail
          all_goals go_ret
          all_goals exact ⟨ret_bool HX.out.symm, _, World.drewN_drewN _ _ _⟩
        · rw [decide_eq_false hF] at hs
          have HG := Lib.hid (show cdPre (l.take (k + 1)) = true from hs)
          have s3 : decide (0 ≤ F) = false := decide_eq_false hF
          clear hs hbad
          go_wp2_with fail
          go_quiet ((first
            | (go_at_call 78; exact quietX_leftq (HB.out _))
            | (go_at_call 118; exact quietX_leftq (HI.out _ (RP.out.drewN _)))
            ))
          all_goals go_wp2_with fail
          all_goals go_roundw
          case rel => exact ⟨k + 1, _, by omega, by go_num, rfl, HG.out⟩
          case measure => simp [intOf]; omega
    · obtain rfl : k = n := by omega
      have HX : Hid (cdOk l = true) := by show _ = _; rw [HE.out]; rw [List.take_of_length_le (by have := HN.out; omega)] at hf; exact hf
      clear hf
      go_wp2_with fail
      go_ret
      exact ⟨ret_bool HX.out.symm, _, rfl⟩

theorem isCode_spec (w : World) (v : Value) (l : List ByteArray) (h : RdS w v l) (hm : ∀ s ∈ l, s.size ≤ 4000000) :
    Calls Try.prog 16 #[v] w fun e w' => e = .returned (.bool (cdOk l)) ∧ Below w.heap.size w w' := by
  have HC := Lib.hid (fun W h => l05Is_any W v l h hm)
  have HH := Lib.hid h
  clear h hm
  generalize cdOk l = R at *
  go_enter Try.func16, Try.ntmps16
  go_wp2_with fail
  refine (HC.out _ HH.out).mono ?_; rintro e w' ⟨rfl, q, rfl⟩
  go_wp2_with fail
  go_ret
  exact ⟨rfl, below_drewN (Below.refl _ _) q⟩

set_option maxHeartbeats 1600000 in
set_option maxRecDepth 100000 in
theorem isCode_impl (w : World) (v : Value) (l : List ByteArray) (h : RdS w v l) (hm : ∀ s ∈ l, s.size ≤ 4000000) :
    Calls Try.prog 18 #[v] w fun e w' => e = .returned (.bool (cdOk l)) ∧ Below w.heap.size w w' := by
  have hlen := h.len
  unfold maxLen at hlen
  have HH := Lib.hid h
  obtain ⟨A, n, c, rfl, hn, hnc, -, r⟩ := h
  rw [hn] at hlen
  have HN := Lib.hid hn
  have HR := Lib.hid r
  have HM := Lib.hid hm
  have hE : cdOk l = (decide (1 ≤ n) && (decide (n ≤ 16) && cdPre l)) := by unfold cdOk; rw [hn]
  clear hn r hm
  by_cases h1 : 1 ≤ n ∧ n ≤ 16
  rotate_left
  · have HE : Hid (cdOk l = false) := by
      show _ = _; rw [hE]
      by_cases g : 1 ≤ n
      · rw [decide_eq_false (show ¬ n ≤ 16 from fun e => h1 ⟨g, e⟩)]; simp
      · rw [decide_eq_false g]; rfl
    have H1 : Hid (¬ ((1 : Int) ≤ (n : Int) ∧ (n : Int) ≤ 16)) := by show ¬ _; omega
    clear hE h1
    go_enter Try.func18, Try.ntmps18
    go_wp2_with fail
    refine (bI_no _ _ _ _ H1.out).mono ?_; rintro e w' ⟨rfl, rfl⟩
    go_wp2_with fail
    go_ret
    exact ⟨ret_bool HE.out.symm, Below.refl _ _⟩
  obtain ⟨h1, h2⟩ := h1
  rw [decide_eq_true h1, decide_eq_true h2, Bool.true_and, Bool.true_and] at hE
  have HE := Lib.hid hE
  have H1 : Hid ((1 : Int) ≤ (n : Int) ∧ (n : Int) ≤ 16) := by show _ ∧ _; omega
  clear hE
  go_enter Try.func18, Try.ntmps18
  go_wp2_with fail
  refine (bI_yes _ _ _ _ H1.out.1 H1.out.2).mono ?_; rintro e w' ⟨rfl, rfl⟩
  go_wp2_with fail
  go_loopw [11] (fun i wr => ∃ k : Nat, k ≤ n ∧ i = .int .i64 k ∧ Below w.heap.size w wr ∧ cdAll (l.take k) = true) (fun i _ => n - (intOf i).toNat)
  case atStart => exact ⟨0, Nat.zero_le _, rfl, Below.refl _ _, rfl⟩
  case round =>
    obtain ⟨k, hk, rfl, hb, hf⟩ := hrel
    have HB := Lib.hid hb
    clear hb
    by_cases hlt : k < n
    · obtain ⟨b, o, rfl, hlt0, hc⟩ := HR.out (by omega)
      have hkl : k < l.length := by have := HN.out; omega
      have hc0 := (HB.out.cell (p := ⟨b, o + k, none⟩) hlt0).trans (hc k hkl)
      have hs := cdAll_snoc l k hkl
      rw [hf, Bool.true_and] at hs
      have hbad := cdAll_bad l k hkl
      rw [← HE.out] at hbad
      have hx := HM.out l[k] (List.getElem_mem hkl)
      have hk0 : (0 : Int) ≤ (k : Int) := by omega
      have hk1 : (k : Int) < (n : Int) := by omega
      have hxs : l[k].size ≤ 9223372036854775807 := by omega
      clear hc hf
      generalize l[k] = x at *
      have HI := Lib.hid (fun W => isBits_any x W (by unfold maxLen; omega))
      unfold cwOk at hs hbad
      clear hx
      by_cases g1 : 1 ≤ x.size ∧ x.size ≤ 12
      rotate_left
      · have HX : Hid (cdOk l = false) := by
          show _ = _
          refine hbad ?_
          by_cases g : 1 ≤ x.size
          · rw [decide_eq_false (show ¬ x.size ≤ 12 from fun e => g1 ⟨g, e⟩)]; simp
          · rw [decide_eq_false g]; rfl
        have G1 : Hid (¬ ((1 : Int) ≤ (x.size : Int) ∧ (x.size : Int) ≤ 12)) := by show ¬ _; omega
        clear hs hbad g1 HI
        go_wp2_with fail
        refine (bI_no _ _ _ _ G1.out).mono ?_; rintro e w' ⟨rfl, rfl⟩
        go_wp2_with fail
        go_ret
        exact ⟨ret_bool HX.out.symm, HB.out⟩
      obtain ⟨g1, g2⟩ := g1
      have G1 : Hid ((1 : Int) ≤ (x.size : Int) ∧ (x.size : Int) ≤ 12) := by show _ ∧ _; omega
      rw [decide_eq_true g1, decide_eq_true g2, Bool.true_and, Bool.true_and] at hs hbad
      cases hbb : isB x.data.toList
      · rw [hbb] at HI hbad
        have HX := Lib.hid (hbad rfl)
        clear hs hbad hbb
        go_wp2_with fail
        refine (bI_yes _ _ _ _ G1.out.1 G1.out.2).mono ?_; rintro e w' ⟨rfl, rfl⟩
        go_wp2_with fail
        refine (HI.out _).mono ?_; rintro e w1 ⟨rfl, hb1⟩
        have HB1 := Lib.hid (HB.out.trans (hb1.mono HB.out.size))
        clear hb1 HB
        go_wp2_with fail
        go_ret
        exact ⟨ret_bool HX.out.symm, HB1.out⟩
      · rw [hbb] at HI hs
        have HG := Lib.hid (show cdAll (l.take (k + 1)) = true from hs)
        clear hs hbad hbb
        go_wp2_with fail
        refine (bI_yes _ _ _ _ G1.out.1 G1.out.2).mono ?_; rintro e w' ⟨rfl, rfl⟩
        go_wp2_with fail
        refine (HI.out _).mono ?_; rintro e w1 ⟨rfl, hb1⟩
        have HB1 := Lib.hid (HB.out.trans (hb1.mono HB.out.size))
        clear hb1 HB
        go_wp2_with fail
        go_roundw
        case rel => exact ⟨k + 1, by omega, by go_num, HB1.out, HG.out⟩
        case measure => simp [intOf]; omega
    · obtain rfl : k = n := by omega
      have hall : cdAll l = true := by rw [List.take_of_length_le (by have := HN.out; omega)] at hf; exact hf
      have HX : Hid (cdOk l = decide l.Nodup) := by show _ = _; rw [HE.out]; exact cdAll_full hall
      have CD := Lib.hid (fun W h => dataOf_any W (.slice A k c) l h (fun t ht => HM.out t ht) (by have := HN.out; omega))
      have hsz := wM_size (H := Unit) l.length l rfl
      have HZ : Hid (Maps.size (wM l : DataW Unit) = k ↔ l.Nodup) := by show _ ↔ _; have := HN.out; rw [← this]; exact hsz.2
      clear hf hall hsz
      have HL : Hid (∀ W b m, OwnM W b m l → ∀ ty, (Builtin.len_ #[76] ty #[.map (some b)]).run Try.prog W = .ok (.int .i64 (Maps.size (wM l : DataW Unit))) W) := by
        show ∀ W b m, _
        exact fun W b m ho ty => World.ownsMap.len ho Try.underlying76 ty
      generalize Maps.size (wM l : DataW Unit) = Z at *
      by_cases hnd : l.Nodup
      · have hZ : Z = k := HZ.out.2 hnd
        subst hZ
        have HY : Hid (cdOk l = true) := by show _ = _; rw [HX.out, decide_eq_true hnd]
        have s1 : ((Z : Int) == (Z : Int)) = true := beq_t rfl
        clear hnd
        go_wp2_with fail
        refine (CD.out _ (HH.out.keep HB.out)).mono ?_; rintro e w3 ⟨rfl, ho3, hb3⟩
        have HB3 := Lib.hid (HB.out.trans (hb3.mono HB.out.size))
        have hml := HL.out _ _ _ ho3
        clear ho3 hb3
        go_wp2_with fail
        go_ret
        exact ⟨ret_bool HY.out.symm, HB3.out⟩
      · have hZ : ¬ Z = k := fun e => hnd (HZ.out.1 e)
        have HY : Hid (cdOk l = false) := by show _ = _; rw [HX.out, decide_eq_false hnd]
        have s1 : ((Z : Int) == (k : Int)) = false := beq_f (by omega)
        clear hnd hZ
        go_wp2_with fail
        refine (CD.out _ (HH.out.keep HB.out)).mono ?_; rintro e w3 ⟨rfl, ho3, hb3⟩
        have HB3 := Lib.hid (HB.out.trans (hb3.mono HB.out.size))
        have hml := HL.out _ _ _ ho3
        clear ho3 hb3
        go_wp2_with fail
        go_ret
        exact ⟨ret_bool HY.out.symm, HB3.out⟩
end Go.Proofs.Ytijmfienaoeboaa
