/- The contract of the program's ValidBlockCode. -/
import Derived.Test.YtjmaapbodacggaaBw
import Derived.Deep.RegionHeld3
import Derived.Deep.DeepCutAuto
namespace Go.Proofs.Ytjmaapbodacggaa
open Go Go.RowKit Go.Maps
set_option linter.unusedVariables false

theorem bk_all {W : World} {b : Nat} {d wd : Int} {vm vp : Value} (h : Bk W b (bcV d wd vm vp)) : W.cell? ⟨b, 0, none⟩ = some (.int .i64 d) ∧ W.cell? ⟨b, 1, none⟩ = some (.int .i64 wd) ∧ W.cell? ⟨b, 2, none⟩ = some vm ∧ W.cell? ⟨b, 3, none⟩ = some vp :=
  ⟨h.c 0 _ rfl, h.c 1 _ rfl, h.c 2 _ rfl, h.c 3 _ rfl⟩

set_option maxHeartbeats 1600000 in
set_option maxRecDepth 100000 in
theorem validBlockCode_impl (w : World) (d wd : Int) (vm vp : Value) (m p : List ByteArray) (hm : RdS w vm m) (hp : RdS w vp p) (sm : ∀ s ∈ m, s.size ≤ 4000000) (sp : ∀ s ∈ p, s.size ≤ 4000000) (ll : p.length ≤ 4000000) :
    Calls Try.prog 115 #[.agg #[.int .i64 d, .int .i64 wd, vm, vp]] w fun e w' => e = .returned (.bool (bcOk d wd m p)) ∧ Below w.heap.size w w' := by
  obtain ⟨A1, k1, e1⟩ := rds_sh hm
  obtain ⟨A2, k2, e2⟩ := rds_sh hp
  have lm := hm.len
  have lp := hp.len
  unfold maxLen at lm lp
  have SL := Lib.hid ll
  clear ll
  generalize hn1 : m.length = n1 at *
  generalize hn2 : p.length = n2 at *
  subst e1 e2
  have HA := Lib.hid (fun W => areSizes_any d wd W)
  obtain ⟨W1, hW1⟩ : ∃ W1, W1 = w.alloc (.cells #[.int .i64 d, .int .i64 wd, .slice A1 n1 k1, .slice A2 n2 k2] 36) := ⟨_, rfl⟩
  have hB0 : Below w.heap.size w W1 := by rw [hW1]; exact (Below.refl _ _).alloc (Nat.le_refl _) _
  have hbk : Bk W1 w.heap.size (bcV d wd (.slice A1 n1 k1) (.slice A2 n2 k2)) := by rw [hW1]; exact Bk.new w (bcV d wd (.slice A1 n1 k1) (.slice A2 n2 k2)) _ _ rfl
  have HB0 := Lib.hid hB0
  have BK0 := Lib.hid hbk
  have HW := Lib.hid hW1
  clear hB0 hbk hW1
  cases hz : szOk d wd
  · have HE := Lib.hid (bcOk_f1' m p hz)
    rw [hz] at HA
    clear hm hp sm sp hz hn1 hn2
    go_enter Try.func115, Try.ntmps115
    go_wp2_with fail
    refine (HA.out _).mono ?_; rintro e w' ⟨rfl, rfl⟩
    go_wp2_with fail
    go_ret
    exact ⟨ret_bool HE.out.symm, (Below.refl _ _).alloc (Nat.le_refl _) _⟩
  rw [hz] at HA
  have hB : bcOk d wd m p = (decide (m.length = 2 ^ d.toNat) && (decide (p.length = 2 ^ d.toNat) && (wordsOk wd 2 m && (wordsOk wd (-2) p && crossB p m 0)))) := by unfold bcOk; rw [hz]; rfl
  have hz' := of_decide_eq_true hz
  obtain ⟨⟨d1, d2⟩, -, -⟩ := hz'
  obtain ⟨d, rfl⟩ := Int.eq_ofNat_of_zero_le (show 0 ≤ d by omega)
  rw [Int.toNat_natCast] at hB
  have CM : Hid (∀ W, Below w.heap.size w W → Calls Try.prog 137 #[.agg #[.int .i64 d, .int .i64 wd, .slice A1 n1 k1, .slice A2 n2 k2], .int .i64 (-1), .slice A1 n1 k1] W fun e w' => e = .returned (.bool (csOk d wd 2 m)) ∧ Below W.heap.size W w') := by
    show ∀ W, _
    exact fun W hb => canSend_any W d wd (-1) A1 A2 n1 n2 k1 k2 _ m (by omega) (by omega) (by omega) (by omega) (hm.keep hb) sm
  have CP : Hid (∀ W, Below w.heap.size w W → Calls Try.prog 137 #[.agg #[.int .i64 d, .int .i64 wd, .slice A1 n1 k1, .slice A2 n2 k2], .int .i64 1, .slice A2 n2 k2] W fun e w' => e = .returned (.bool (csOk d wd (-2) p)) ∧ Below W.heap.size W w') := by
    show ∀ W, _
    exact fun W hb => canSend_any W d wd 1 A1 A2 n1 n2 k1 k2 _ p (by omega) (by omega) (by omega) (by omega) (hp.keep hb) sp
  have hX : bcOk d wd m p = (csOk d wd 2 m && (csOk d wd (-2) p && crossB p m 0)) := by
    rw [hB]; unfold csOk
    generalize decide (m.length = 2 ^ d) = a
    generalize decide (p.length = 2 ^ d) = b
    generalize wordsOk wd 2 m = c
    generalize wordsOk wd (-2) p = e
    cases a <;> cases b <;> cases c <;> cases e <;> rfl
  have HND : Hid (csOk d wd (-2) p = true → p.Nodup) := by
    show _ → _
    intro h
    unfold csOk at h
    exact (wordsOk_parts (Bool.and_eq_true_iff.1 h).2).1
  have HX := Lib.hid hX
  have HM := Lib.hid hm
  have HP := Lib.hid hp
  have SM := Lib.hid sm
  have SP := Lib.hid sp
  have HN1 := Lib.hid hn1
  have HN2 := Lib.hid hn2
  have i0 : ∀ W, (Instr.index 153 (.agg #[.int .i64 (-1), .int .i64 1]) (.int .i64 0)).run Try.prog W = .ok (.int .i64 (-1)) W := fun _ => by kernel_rfl
  have i1 : ∀ W, (Instr.index 153 (.agg #[.int .i64 (-1), .int .i64 1]) (.int .i64 1)).run Try.prog W = .ok (.int .i64 1) W := fun _ => by kernel_rfl
  clear hm hp sm sp hz hn1 hn2 hB hX
  generalize csOk d wd 2 m = CSM at *
  generalize csOk d wd (-2) p = CSP at *
  go_enter Try.func115, Try.ntmps115
  go_wp2_with fail
  refine (HA.out _).mono ?_; rintro e w' ⟨rfl, rfl⟩
  go_wp2_with fail
  rw [← HW.out]
  refine (lineStates_any _).mono ?_; rintro e w2 ⟨rfl, hb2⟩
  have HB2 := Lib.hid (HB0.out.trans (hb2.mono HB0.out.size))
  have BK2 := Lib.hid (BK0.out.keep hb2)
  clear hb2 HB0 BK0 HW
  go_wp2_with fail
  go_loopw [17] (fun i wr => ∃ k : Nat, k ≤ 2 ∧ i = .int .i64 k ∧ Below w.heap.size w wr ∧ Bk wr w.heap.size (bcV d wd (.slice A1 n1 k1) (.slice A2 n2 k2)) ∧ (1 ≤ k → CSM = true) ∧ (2 ≤ k → CSP = true)) (fun i _ => 2 - (intOf i).toNat)
  case atStart => exact ⟨0, by omega, rfl, HB2.out, BK2.out, fun h => by omega, fun h => by omega⟩
  case round =>
    obtain ⟨k, hk, rfl, hb, hbk, f1, f2⟩ := hrel
    have HB := Lib.hid hb
    have BK := Lib.hid hbk
    clear hb hbk HB2 BK2
    have hk3 : k = 0 ∨ k = 1 ∨ k = 2 := by omega
    rcases hk3 with rfl | rfl | rfl
    · clear f1 f2 i1 CP
      cases hcs : CSM
      · have HE : Hid (bcOk d wd m p = false) := by show _ = _; rw [HX.out, hcs]; rfl
        rw [hcs] at CM
        clear hcs
        go_wp2_with fail
        have t0 := BK.out.drew
        have B6 := Lib.hid (HB.out.drew)
        have qs := bk_all t0
        obtain ⟨q0, q1, q2, q3⟩ := qs
        go_region_held3 (fun w' => w'.cell? ⟨w.heap.size, 0, none⟩ = some (.int .i64 d) ∧ w'.cell? ⟨w.heap.size, 1, none⟩ = some (.int .i64 wd) ∧ w'.cell? ⟨w.heap.size, 2, none⟩ = some (.slice A1 n1 k1) ∧ w'.cell? ⟨w.heap.size, 3, none⟩ = some (.slice A2 n2 k2)) ((first | with_reducible exact bk_all t8 | with_reducible exact bk_all t7 | with_reducible exact bk_all t0 | fail))
          (first
            | (go_at_call 116; refine (words_minus _ _ _ _ _ _ _ _ _).mono ?_; rintro e u7 ⟨rfl, hb7⟩; have t7 := Bk.keep t0 hb7; have B7 := Lib.hid (B6.out.trans (hb7.mono B6.out.size)); obtain ⟨q0, q1, q2, q3⟩ := bk_all t7; clear hb7)
            | (go_at_call 137; refine (CM.out _ B7.out).mono ?_; rintro e u8 ⟨rfl, hb8⟩; have t8 := Bk.keep t7 hb8; have B8 := Lib.hid (B7.out.trans (hb8.mono B7.out.size)); obtain ⟨q0, q1, q2, q3⟩ := bk_all t8; clear hb8)
            | fail)
        all_goals go_wp2_with fail
        all_goals go_ret
        all_goals exact ⟨ret_bool HE.out.symm, B8.out⟩
      · rw [hcs] at CM
        go_wp2_with fail
        have t0 := BK.out.drew
        have B6 := Lib.hid (HB.out.drew)
        have qs := bk_all t0
        obtain ⟨q0, q1, q2, q3⟩ := qs
        go_region_held3 (fun w' => w'.cell? ⟨w.heap.size, 0, none⟩ = some (.int .i64 d) ∧ w'.cell? ⟨w.heap.size, 1, none⟩ = some (.int .i64 wd) ∧ w'.cell? ⟨w.heap.size, 2, none⟩ = some (.slice A1 n1 k1) ∧ w'.cell? ⟨w.heap.size, 3, none⟩ = some (.slice A2 n2 k2)) ((first | with_reducible exact bk_all t8 | with_reducible exact bk_all t7 | with_reducible exact bk_all t0 | fail))
          (first
            | (go_at_call 116; refine (words_minus _ _ _ _ _ _ _ _ _).mono ?_; rintro e u7 ⟨rfl, hb7⟩; have t7 := Bk.keep t0 hb7; have B7 := Lib.hid (B6.out.trans (hb7.mono B6.out.size)); obtain ⟨q0, q1, q2, q3⟩ := bk_all t7; clear hb7)
            | (go_at_call 137; refine (CM.out _ B7.out).mono ?_; rintro e u8 ⟨rfl, hb8⟩; have t8 := Bk.keep t7 hb8; have B8 := Lib.hid (B7.out.trans (hb8.mono B7.out.size)); obtain ⟨q0, q1, q2, q3⟩ := bk_all t8; clear hb8)
            | fail)
        all_goals go_wp2_with fail
        all_goals go_roundw
        case rel => exact ⟨1, by omega, rfl, B8.out, t8, fun _ => trivial, fun h => by omega⟩
        case measure => simp [intOf]
    · have hcm := f1 (by omega)
      clear f1 f2 i0 CM
      cases hcs : CSP
      · have HE : Hid (bcOk d wd m p = false) := by show _ = _; rw [HX.out, hcm, hcs]; rfl
        rw [hcs] at CP
        clear hcs
        go_wp2_with fail
        have t0 := BK.out.drew
        have B6 := Lib.hid (HB.out.drew)
        have qs := bk_all t0
        obtain ⟨q0, q1, q2, q3⟩ := qs
        go_region_held3 (fun w' => w'.cell? ⟨w.heap.size, 0, none⟩ = some (.int .i64 d) ∧ w'.cell? ⟨w.heap.size, 1, none⟩ = some (.int .i64 wd) ∧ w'.cell? ⟨w.heap.size, 2, none⟩ = some (.slice A1 n1 k1) ∧ w'.cell? ⟨w.heap.size, 3, none⟩ = some (.slice A2 n2 k2)) ((first | with_reducible exact bk_all t8 | with_reducible exact bk_all t7 | with_reducible exact bk_all t0 | fail))
          (first
            | (go_at_call 116; refine (words_plus _ _ _ _ _ _ _ _ _).mono ?_; rintro e u7 ⟨rfl, hb7⟩; have t7 := Bk.keep t0 hb7; have B7 := Lib.hid (B6.out.trans (hb7.mono B6.out.size)); obtain ⟨q0, q1, q2, q3⟩ := bk_all t7; clear hb7)
            | (go_at_call 137; refine (CP.out _ B7.out).mono ?_; rintro e u8 ⟨rfl, hb8⟩; have t8 := Bk.keep t7 hb8; have B8 := Lib.hid (B7.out.trans (hb8.mono B7.out.size)); obtain ⟨q0, q1, q2, q3⟩ := bk_all t8; clear hb8)
            | fail)
        all_goals go_wp2_with fail
        all_goals go_ret
        all_goals exact ⟨ret_bool HE.out.symm, B8.out⟩
      · rw [hcs] at CP
        go_wp2_with fail
        have t0 := BK.out.drew
        have B6 := Lib.hid (HB.out.drew)
        have qs := bk_all t0
        obtain ⟨q0, q1, q2, q3⟩ := qs
        go_region_held3 (fun w' => w'.cell? ⟨w.heap.size, 0, none⟩ = some (.int .i64 d) ∧ w'.cell? ⟨w.heap.size, 1, none⟩ = some (.int .i64 wd) ∧ w'.cell? ⟨w.heap.size, 2, none⟩ = some (.slice A1 n1 k1) ∧ w'.cell? ⟨w.heap.size, 3, none⟩ = some (.slice A2 n2 k2)) ((first | with_reducible exact bk_all t8 | with_reducible exact bk_all t7 | with_reducible exact bk_all t0 | fail))
          (first
            | (go_at_call 116; refine (words_plus _ _ _ _ _ _ _ _ _).mono ?_; rintro e u7 ⟨rfl, hb7⟩; have t7 := Bk.keep t0 hb7; have B7 := Lib.hid (B6.out.trans (hb7.mono B6.out.size)); obtain ⟨q0, q1, q2, q3⟩ := bk_all t7; clear hb7)
            | (go_at_call 137; refine (CP.out _ B7.out).mono ?_; rintro e u8 ⟨rfl, hb8⟩; have t8 := Bk.keep t7 hb8; have B8 := Lib.hid (B7.out.trans (hb8.mono B7.out.size)); obtain ⟨q0, q1, q2, q3⟩ := bk_all t8; clear hb8)
            | fail)
        all_goals go_wp2_with fail
        all_goals go_roundw
        case rel => exact ⟨2, by omega, rfl, B8.out, t8, fun _ => hcm, fun _ => trivial⟩
        case measure => simp [intOf]
    · have hcm := f1 (by omega)
      have hcp := f2 (by omega)
      have HE : Hid (bcOk d wd m p = crossB p m 0) := by show _ = _; rw [HX.out, hcm, hcp]; rfl
      have HD := Lib.hid (HND.out hcp)
      have CD := Lib.hid (fun W h => dataOf_any W (.slice A2 n2 k2) p h (fun t ht => SP.out t ht) (by rw [HN2.out]; exact SL.out))
      have c3 := BK.out.c 3 _ rfl
      clear f1 f2 i0 i1 CM CP HX HND hcm hcp
      go_wp2_with fail
      refine (CD.out _ (HP.out.keep HB.out)).mono ?_; rintro e w3 ⟨rfl, ho3, hb3⟩
      have HO3 := Lib.hid ho3
      have HB3 := Lib.hid (HB.out.trans (hb3.mono HB.out.size))
      have c2 := (BK.out.keep hb3).c 2 _ rfl
      clear ho3 hb3 c3 BK
      generalize wr.heap.size = bm at *
      go_wp2_with fail
      go_loop [34] (fun i => ∃ k : Nat, k ≤ n1 ∧ i = .int .i64 k ∧ crossB p (m.drop k) k = bcOk d wd m p) (fun i => n1 - (intOf i).toNat)
      case atStart => exact ⟨0, Nat.zero_le _, rfl, HE.out.symm⟩
      case round =>
        obtain ⟨k, hk, rfl, hf⟩ := hrel
        clear c2
        by_cases hlt : k < n1
        · have hkl : k < m.length := by have := HN1.out; omega
          obtain ⟨A, n, c, e, hn, -, -, r⟩ := HM.out
          injection e with e1 e2 e3
          subst e1 e2 e3
          obtain ⟨b', o', rfl, hlt0, hcc⟩ := r (by omega)
          have hc0 := (HB3.out.cell (p := ⟨b', o' + k, none⟩) hlt0).trans (hcc k hkl)
          rw [crossB_drop p m k hkl] at hf
          have hx := SM.out m[k] (List.getElem_mem hkl)
          have hk0 : (0 : Int) ≤ (k : Int) := by omega
          have hk1 : (k : Int) < (n1 : Int) := by omega
          have HF := Lib.hid hf
          clear hcc hf r hn
          generalize m[k] = x at *
          have HK := Lib.hid (show keyOf Try.prog 9 (.string x) = some (keyL x) from WideMaps.keyOf_string_mk Try.underlying9 (by unfold maxLen; omega))
          by_cases hxm : x ∈ p
          · have HH : Hid (has (wM p : DataW Unit) (keyL x) = true) := by show _ = _; rw [wM_has x _ p rfl]; exact inW_t hxm
            have HC : Hid (∀ c : Int, (wM p : DataW Unit).atKey (keyL x) (.lit (.int .i64 0)) = .lit (.int .i64 c) → c = fnd p x 0) := by
              show ∀ c : Int, _ → _
              intro c hat
              rw [wM_at x _ _ p rfl HD.out hxm] at hat
              injection hat with hat
              injection hat with _ hat
              exact hat.symm
            have h0 : 0 ≤ fnd p x 0 := by have := fnd_nonneg p x; rw [inW_t hxm] at this; exact of_decide_eq_true this
            clear hx hxm
            generalize fnd p x 0 = G at *
            by_cases hg : G = (k : Int)
            · have HG : Hid (crossB p (m.drop (k + 1)) (k + 1) = bcOk d wd m p) := by show _ = _; have := HF.out; rw [decide_eq_true hg, Bool.or_true, Bool.true_and] at this; exact this
              have s1 : (G != (k : Int)) = false := bne_f hg
              clear hg HF
              go_wp2_with (at_lookup; refine wpList_lookup_own_ok_int _ rfl _ _ 131 rfl 9 2 .i64 lawStr Try.underlying131 Try.underlying2 (zeroInt _) bm p.length _ rfl HO3.out _ _ rfl HK.out ?_; intro c hat _; have e := HC.out c hat; clear hat; subst e; rw [HH.out])
              go_wp2_with fail
              go_round
              case rel => exact ⟨k + 1, by omega, by go_num, HG.out⟩
              case measure => simp [intOf]; omega
            · have HG : Hid (bcOk d wd m p = false) := by show _ = _; have := HF.out; rw [decide_eq_false hg, decide_eq_false (show ¬ G = -1 by omega)] at this; exact this.symm
              have s1 : (G != (k : Int)) = true := bne_t hg
              clear hg HF
              go_wp2_with (at_lookup; refine wpList_lookup_own_ok_int _ rfl _ _ 131 rfl 9 2 .i64 lawStr Try.underlying131 Try.underlying2 (zeroInt _) bm p.length _ rfl HO3.out _ _ rfl HK.out ?_; intro c hat _; have e := HC.out c hat; clear hat; subst e; rw [HH.out])
              go_wp2_with fail
              go_ret
              exact ⟨ret_bool HG.out.symm, HB3.out⟩
          · have HH : Hid (has (wM p : DataW Unit) (keyL x) = false) := by show _ = _; rw [wM_has x _ p rfl]; exact inW_f hxm
            have HC : Hid (∀ c : Int, (wM p : DataW Unit).atKey (keyL x) (.lit (.int .i64 0)) = .lit (.int .i64 c) → c = 0) := by
              show ∀ c : Int, _ → _
              intro c hat
              rw [wM_at_not x _ p hxm] at hat
              injection hat with hat
              injection hat with _ hat
              exact hat.symm
            have HG : Hid (crossB p (m.drop (k + 1)) (k + 1) = bcOk d wd m p) := by show _ = _; have := HF.out; rw [fnd_not p x 0 hxm, decide_eq_true rfl, Bool.true_or, Bool.true_and] at this; exact this
            clear hx hxm HF
            go_wp2_with (at_lookup; refine wpList_lookup_own_ok_int _ rfl _ _ 131 rfl 9 2 .i64 lawStr Try.underlying131 Try.underlying2 (zeroInt _) bm p.length _ rfl HO3.out _ _ rfl HK.out ?_; intro c hat _; have e := HC.out c hat; clear hat; subst e; rw [HH.out])
            go_wp2_with fail
            go_round
            case rel => exact ⟨k + 1, by omega, by go_num, HG.out⟩
            case measure => simp [intOf]; omega
        · obtain rfl : k = n1 := by omega
          have HX : Hid (bcOk d wd m p = true) := by show _ = _; rw [List.drop_of_length_le (by have := HN1.out; omega), crossB] at hf; exact hf.symm
          clear hf
          go_wp2_with fail
          go_ret
          exact ⟨ret_bool HX.out.symm, HB3.out⟩
end Go.Proofs.Ytjmaapbodacggaa
