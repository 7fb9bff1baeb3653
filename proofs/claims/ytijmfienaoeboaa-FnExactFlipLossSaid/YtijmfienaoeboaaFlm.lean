/- The model's FlipLoss, walked. -/
import Derived.Test.YtijmfienaoeboaaFlk
namespace Go.Proofs.Ytijmfienaoeboaa
open Go Go.RowKit Go.Maps
set_option linter.unusedVariables false

theorem rd_shY {w : World} {v : Value} {l : List Int} (h : Rd w v l) : ∃ A c, v = .slice A l.length c := by
  obtain ⟨A, n, c, e, hn, -⟩ := h
  exact ⟨A, c, by rw [e, hn]⟩

set_option maxHeartbeats 4000000 in
set_option maxRecDepth 100000 in
theorem flip_spec (w : World) (v u : Value) (l : List ByteArray) (ss : List Int) (a : Int) (h : RdS w v l) (hu : Rd w u ss) (hm : ∀ s ∈ l, s.size ≤ 4000000) (wa : (Lit.int .i64 a).wf = true) :
    Calls Try.prog 33 #[v, u, .int .i64 a] w fun e w' => e = .returned (.tuple #[.int .i64 (fl1 (flR l ss a)), .int .i64 (fl2 (flR l ss a)), .bool (flR l ss a).isSome]) ∧ Below w.heap.size w w' := by
  have HIS := Lib.hid (l05Is_any w v l h hm)
  have HH := Lib.hid h
  have HU := Lib.hid hu
  have hlen := h.len
  have hlen2 := hu.len
  unfold maxLen at hlen hlen2
  obtain ⟨A, n, c, rfl, hn, -, -, r⟩ := h
  obtain ⟨A2, n2, c2, rfl, hn2, -, -, r2⟩ := hu
  rw [hn] at hlen
  rw [hn2] at hlen2
  cases hcd : cdOk l
  · have hc : cmOk l = false := by unfold cmOk; rw [hcd]; rfl
    have HR := Lib.hid (flR_c (ss := ss) (a := a) hc)
    rw [hcd] at HIS
    clear hm hc wa hcd hn hn2 r r2
    go_enter Try.func33, Try.ntmps33
    go_wp2_with fail
    refine HIS.out.mono ?_; rintro e w1 ⟨rfl, q, rfl⟩
    go_wp2_with fail
    go_ret3
    exact ⟨by rw [HR.out] <;> rfl, below_drewN (Below.refl _ _) q⟩
  rw [hcd] at HIS
  have h16 : n ≤ 16 := by have := (cdOk_parts hcd).2.1; omega
  by_cases h2 : 2 ≤ n
  rotate_left
  · have hc : cmOk l = false := by
      cases e : cmOk l
      · rfl
      · have := cm_two e; omega
    have HR := Lib.hid (flR_c (ss := ss) (a := a) hc)
    clear hm hc wa hcd hn hn2 r r2
    go_enter Try.func33, Try.ntmps33
    go_wp2_with fail
    refine HIS.out.mono ?_; rintro e w1 ⟨rfl, q, rfl⟩
    go_wp2_with fail
    go_ret3
    exact ⟨by rw [HR.out] <;> rfl, below_drewN (Below.refl _ _) q⟩
  have HCP := Lib.hid (fun W h => l05Complete_any W (.slice A n c) l h hcd)
  cases hc : cmOk l
  · have HR := Lib.hid (flR_c (ss := ss) (a := a) hc)
    rw [hc] at HCP
    clear hm hc wa hcd hn hn2 r r2
    go_enter Try.func33, Try.ntmps33
    go_wp2_with fail
    refine HIS.out.mono ?_; rintro e w1 ⟨rfl, q, rfl⟩
    go_wp2_with fail
    refine (HCP.out _ (HH.out.drewN q)).mono ?_; rintro e w1 ⟨rfl, q2, rfl⟩
    go_wp2_with fail
    go_ret3
    exact ⟨by rw [HR.out] <;> rfl, below_drewN (Below.refl _ _) _⟩
  rw [hc] at HCP
  by_cases h400 : n2 ≤ 400
  rotate_left
  · have HR := Lib.hid (flR_s (a := a) (sy_many hcd (show 400 < ss.length by omega)))
    clear hm hc wa hcd hn hn2 r r2
    go_enter Try.func33, Try.ntmps33
    go_wp2_with fail
    refine HIS.out.mono ?_; rintro e w1 ⟨rfl, q, rfl⟩
    go_wp2_with fail
    refine (HCP.out _ (HH.out.drewN q)).mono ?_; rintro e w1 ⟨rfl, q2, rfl⟩
    go_wp2_with fail
    go_ret3
    exact ⟨by rw [HR.out] <;> rfl, below_drewN (Below.refl _ _) _⟩
  have HN := Lib.hid hn
  have HN2 := Lib.hid hn2
  have HRa := Lib.hid r
  have HRb := Lib.hid r2
  have HM := Lib.hid (cdOk_parts hcd).2.2.2
  have HC := Lib.hid (cm_cmp hc)
  have HCD := Lib.hid hcd
  have HCM := Lib.hid hc
  have hab := i64_bdd wa
  clear hm hc wa hcd hn hn2 r r2
  obtain ⟨a0', a1'⟩ := hab
  go_enter Try.func33, Try.ntmps33
  go_wp2_with fail
  refine HIS.out.mono ?_; rintro e w1 ⟨rfl, q, rfl⟩
  go_wp2_with fail
  refine (HCP.out _ (HH.out.drewN q)).mono ?_; rintro e w1 ⟨rfl, q2, rfl⟩
  clear HIS HCP
  obtain ⟨w1, hw1⟩ : ∃ w1, w1 = (w.drewN q).drewN q2 := ⟨_, rfl⟩
  have HB1 : Hid (Below w.heap.size w w1) := by show Below _ _ _; rw [hw1, World.drewN_drewN]; exact below_drewN (Below.refl _ _) _
  have HH1 : Hid (RdS w1 (.slice A n c) l) := by show RdS _ _ _; exact HH.out.keep HB1.out
  first | rw [← hw1] | (rw [World.drewN_drewN] at hw1; rw [← hw1])
  clear hw1 HH HU
  go_wp2_with fail
  go_loop [9, 10] (fun s i => ∃ k : Nat, k ≤ n2 ∧ i = .int .i64 k ∧ s = .string (tx (syC l (ss.take k))) ∧ (syC l (ss.take k)).length ≤ 12 * k ∧ ∀ j (hj : j < ss.length), j < k → 0 ≤ ss[j] ∧ ss[j] ≤ (l.length : Int) - 1) (fun _ i => n2 - (intOf i).toNat)
  case atStart => exact ⟨0, Nat.zero_le _, rfl, rfl, by simp [syC], fun j _ h => by omega⟩
  case round =>
    obtain ⟨k, hk, rfl, rfl, hl12, hall⟩ := hrel
    have HA := Lib.hid hall
    clear hall
    by_cases hlt : k < n2
    · obtain ⟨b2, o2, rfl, hlt2, hc2⟩ := HRb.out (by omega)
      obtain ⟨b, o, rfl, hlt0, hcc⟩ := HRa.out (by omega)
      have hks : k < ss.length := by have := HN2.out; omega
      have q2 := (HB1.out.cell (p := ⟨b2, o2 + k, none⟩) hlt2).trans (hc2 k hks)
      have hsn := syC_snoc l ss k hks
      have hbad := syOk_bad (l := l) k hks
      have hk0 : (0 : Int) ≤ (k : Int) := by omega
      have hk1 : (k : Int) < (n2 : Int) := by omega
      have HCC := Lib.hid hcc
      have HAN : Hid (0 ≤ ss[k] ∧ ss[k] ≤ (l.length : Int) - 1 → ∀ j (hj : j < ss.length), j < k + 1 → 0 ≤ ss[j] ∧ ss[j] ≤ (l.length : Int) - 1) := by
        show _ → _
        intro h0 j hj hlt'
        by_cases e : j = k
        · subst e; exact h0
        · exact HA.out j hj (by omega)
      clear hc2 hcc
      generalize ss[k] = x at *
      by_cases hx : 0 ≤ x ∧ x ≤ (l.length : Int) - 1
      rotate_left
      · have HX := Lib.hid (flR_s (a := a) (hbad hx))
        have HG : Hid (¬ (0 ≤ x ∧ x ≤ (n : Int) - 1)) := by show ¬ _; have := HN.out; omega
        clear hx hbad hsn
        go_wp2_with fail
        refine (l00In_no _ _ _ _ HG.out).mono ?_; rintro e w' ⟨rfl, rfl⟩
        go_wp2_with fail
        go_ret3
        exact ⟨by rw [HX.out] <;> rfl, HB1.out⟩
      · obtain ⟨m, hm, rfl, hw⟩ := syW_at hx
        have HAK := Lib.hid (HAN.out hx)
        have HG : Hid (0 ≤ (m : Int) ∧ (m : Int) ≤ (n : Int) - 1) := by show _ ∧ _; have := HN.out; omega
        have q1 := (HB1.out.cell (p := ⟨b, o + m, none⟩) hlt0).trans (HCC.out m hm)
        obtain ⟨x1, x2, -⟩ := cwOk_parts (HM.out l[m] (List.getElem_mem hm))
        rw [hw] at hsn
        have hm0 : (0 : Int) ≤ (m : Int) := by omega
        have hm1 : (m : Int) < (n : Int) := by have := HN.out; omega
        generalize l[m] = y at *
        have hyl : y.data.toList.length = y.size := by simp
        have hcl : (syC l (ss.take (k + 1))).length ≤ 12 * (k + 1) := by rw [hsn, List.length_append, hyl]; omega
        have HCL := Lib.hid hcl
        have hsum : ∀ W : World, (Op.stringOp .add (tx (syC l (ss.take k))) y).run Try.prog W = .ok (.string (tx (syC l (ss.take (k + 1))))) W := fun W => by
          rw [hsn, ← tx_addS]
          exact run_string_add_sum W _ _ (by rw [tx_size]; omega)
        clear hx hbad hsn hw hyl hcl HAN HA
        go_wp2_with fail
        refine (l00In_yes _ _ _ _ HG.out.1 HG.out.2).mono ?_; rintro e w' ⟨rfl, rfl⟩
        go_wp2_with fail
        go_round
        case rel => exact ⟨k + 1, by omega, by go_num, rfl, HCL.out, HAK.out⟩
        case measure => simp [intOf]; omega
    · obtain rfl : k = n2 := by omega
      have he : ss.take k = ss := List.take_of_length_le (by have := HN2.out; omega)
      rw [he] at hl12 ⊢
      clear he
      have HAL : Hid (∀ j (hj : j < ss.length), 0 ≤ ss[j] ∧ ss[j] ≤ (l.length : Int) - 1) := by
        show ∀ j hj, _
        exact fun j hj => HA.out j hj (by have := HN2.out; omega)
      clear HA
      obtain ⟨S, hS⟩ : ∃ S, S = syC l ss := ⟨_, rfl⟩
      obtain ⟨X, hX⟩ : ∃ X, X = tx S := ⟨_, rfl⟩
      rw [← hS] at hl12 ⊢
      rw [← hX]
      have hXs : X.size = S.length := by rw [hX]; exact tx_size S
      have hXb : X.size ≤ 9223372036854775807 := by omega
      by_cases g1 : X.size ≤ 400
      rotate_left
      · have HX : Hid (flR l ss a = none) := by
          show _ = _
          refine flR_s ?_
          unfold syOk
          rw [← hS, decide_eq_false (by omega)]; simp
        have t1 : decide ((400 : Int) < (X.size : Int)) = true := decide_eq_true (by omega)
        clear hS hX hXs
        go_wp2_with fail
        go_ret3
        exact ⟨by rw [HX.out] <;> rfl, HB1.out⟩
      have hsy : syOk l ss = true := syOk_yes HAL.out (by rw [← hS]; omega)
      have t1 : ¬ (400 : Int) < (X.size : Int) := by omega
      by_cases ha : 0 ≤ a ∧ a ≤ (S.length : Int) - 1
      rotate_left
      · have HX : Hid (flR l ss a = none) := by show _ = _; rw [hS] at ha; exact flR_a ha
        have HA : Hid (¬ (0 ≤ a ∧ a ≤ (X.size : Int) - 1)) := by show ¬ _; rw [hXs]; exact ha
        clear hS hX hXs ha hsy
        go_wp2_with fail
        refine (l00In_no _ _ _ _ HA.out).mono ?_; rintro e w' ⟨rfl, rfl⟩
        go_wp2_with fail
        go_ret3
        exact ⟨by rw [HX.out] <;> rfl, HB1.out⟩
      have HR : Hid (flR l ss a = lossO (pth l) S a.toNat) := by show _ = _; rw [hS] at ha ⊢; exact flR_t HCM.out hsy ha
      have HA : Hid (0 ≤ a ∧ a ≤ (X.size : Int) - 1) := by show _ ∧ _; rw [hXs]; exact ha
      obtain ⟨a0, a1⟩ := ha
      obtain ⟨a, rfl⟩ := Int.eq_ofNat_of_zero_le a0
      rw [Int.toNat_natCast] at HR
      have hbt : bt S := by rw [hS]; exact syC_bt HCD.out hsy
      have hS400 : S.length ≤ 400 := by omega
      have haS : a < S.length := by omega
      have E1 := Lib.hid (fun W h => l05Ends_any W (.slice A n c) l S h HC.out hS400 hbt)
      have hcl := chg_len S a haS
      have E2 := Lib.hid (fun W h => l05Ends_any W (.slice A n c) l (chg S a) h HC.out (by omega) (chg_bt a hbt))
      rw [← hX] at E1
      rw [hcl] at E2
      have HG := Lib.hid (flG_flF (endB (pth l) S) (endB (pth l) (chg S a)) a S.length S.length 0 0 (by omega))
      have hx1 : X.extract 0 a = tx (S.take a) := by rw [hX]; exact ex_take S a (by omega)
      have hx2 : X.extract a (a + 1) = tx [S[a]] := by rw [hX]; exact run_slice_tx w S a haS hS400
      have hx3 : X.extract (a + 1) X.size = tx (S.drop (a + 1)) := by rw [hX]; exact ex_drop S (a + 1)
      have hca := hbt S[a] (List.getElem_mem haS)
      have HO : Hid (∀ W, Calls Try.prog 83 #[.string (tx [S[a]])] W fun e w' => e = .returned (.string (tx [oth S[a]])) ∧ Below W.heap.size W w') := by
        show ∀ W, _
        intro W
        have := l03OtherX_any (tx [S[a]]) W (by rw [tx_size]; simp) (by
          rw [tx_list]
          rcases hca with h | h <;> (rw [h]; rfl))
        rwa [oth_tx hca] at this
      have hs1 : ∀ W : World, (Op.stringOp .add (tx (S.take a)) (tx [oth S[a]])).run Try.prog W = .ok (.string (tx (S.take a ++ [oth S[a]]))) W := fun W => by
        rw [← tx_add]; exact run_string_add_sum W _ _ (by rw [tx_size, tx_size]; simp; omega)
      have hs2 : ∀ W : World, (Op.stringOp .add (tx (S.take a ++ [oth S[a]])) (tx (S.drop (a + 1)))).run Try.prog W = .ok (.string (tx (chg S a))) W := fun W => by
        have : chg S a = (S.take a ++ [oth S[a]]) ++ S.drop (a + 1) := by
          unfold chg
          rw [show S.getD a 48 = S[a] from by simp [List.getD, haS]]
        rw [this, ← tx_add (S.take a ++ [oth S[a]])]; exact run_string_add_sum W _ _ (by rw [tx_size, tx_size]; simp; omega)
      have HL := Lib.hid (endsP_len (endB (pth l) S) 0 S.length)
      have HBD := Lib.hid (endsP_bd (endB (pth l) S) S.length)
      have aw : IntKind.i64.wrap ((a : Int) + 1) = (a : Int) + 1 := IntWalk.i64_in _ (by omega)
      have at1 : ((a : Int) + 1).toNat = a + 1 := by omega
      have ai0 : (0 : Int) ≤ (a : Int) := by omega
      have ai1 : (a : Int) ≤ (X.size : Int) := by omega
      have ai2 : (0 : Int) ≤ (a : Int) + 1 := by omega
      have ai3 : (a : Int) + 1 ≤ (X.size : Int) := by omega
      have ai4 : (a : Int) ≤ (a : Int) + 1 := by omega
      have hS4 := hS400
      have HLO : Hid (lossO (pth l) S a = flG (a : Int) (endsP (endB (pth l) (chg S a)) 0 S.length) (endsP (endB (pth l) S) 0 S.length) 0) := by show _ = _; rw [HG.out]; rfl
      clear hS hX hXs hsy hbt hcl HG hca a0 a1
      generalize endsP (endB (pth l) S) 0 S.length = e1 at *
      generalize endsP (endB (pth l) (chg S a)) 0 S.length = e2 at *
      go_wp2_with fail
      refine (l00In_yes _ _ _ _ HA.out.1 HA.out.2).mono ?_; rintro e w' ⟨rfl, rfl⟩
      go_wp2_with fail
      refine (E1.out _ HH1.out).mono ?_; rintro e w2 ⟨u1, rfl, ho1, hb2⟩
      have HB2 := Lib.hid (HB1.out.trans (hb2.mono HB1.out.size))
      have HH2 := Lib.hid (HH1.out.keep hb2)
      have ho1r := ho1.rd
      obtain ⟨Ao, co, rfl⟩ := rd_shY ho1r
      have HO1 := Lib.hid ho1r
      clear ho1 ho1r hb2 HB1 HH1 E1
      have kd : Below w2.heap.size w2 w2.drew := (Below.refl _ _).drew
      have HH6 := Lib.hid (HH2.out.keep kd)
      have HO6 := Lib.hid (HO1.out.keep kd)
      have HB6 := Lib.hid (HB2.out.trans (kd.mono HB2.out.size))
      clear kd HH2 HO1 HB2
      go_wp2_with fail
      go_region_held3 (fun _ => True) (trivial)
        (first
          | (go_at_call 83; refine (HO.out _).mono ?_; rintro e w7 ⟨rfl, hb7⟩; have HH7 := Lib.hid (HH6.out.keep hb7); have HO7 := Lib.hid (HO6.out.keep hb7); have HB7 := Lib.hid (HB6.out.trans (hb7.mono HB6.out.size)); clear hb7)
          | (go_at_call 82; refine (E2.out _ HH7.out).mono ?_; rintro e w8 ⟨u2, rfl, ho2, hb8⟩; have HO8 := Lib.hid (HO7.out.keep hb8); have HB8 := Lib.hid (HB7.out.trans (hb8.mono HB7.out.size)); have HE8 := Lib.hid ho2.rd; clear ho2 hb8)
          | fail)
      all_goals
        clear hs1 hs2 hx1 hx2 hx3 HO E2
        go_wp2_with fail
        go_loop [13, 14] (fun nn i => ∃ (k : Nat) (m : Int), k ≤ e1.length ∧ i = .int .i64 k ∧ nn = .int .i64 m ∧ 0 ≤ m ∧ m ≤ k ∧ flG (a : Int) e2 (e1.drop k) m = lossO (pth l) S a) (fun _ i => e1.length - (intOf i).toNat)
        case atStart => exact ⟨0, 0, Nat.zero_le _, rfl, rfl, Int.le_refl _, by simp, HLO.out.symm⟩
        case round =>
          obtain ⟨k, m, hk, rfl, rfl, m0, m1, hf⟩ := hrel
          have hel := HL.out
          by_cases hlt : k < e1.length
          · have ho8 := HO8.out
            obtain ⟨Ax, nx, cx, ex, hnx, -, -, rx⟩ := ho8
            injection ex with ex1 ex2 ex3
            obtain ⟨bx, ox, hbx, -, hcx⟩ := rx (by omega)
            rw [hbx] at ex1
            subst ex1
            have q0 := hcx k hlt
            rw [List.drop_eq_getElem_cons hlt, flG] at hf
            have hbd := HBD.out e1[k] (List.getElem_mem hlt)
            obtain ⟨y1, y2⟩ := hbd
            have HH8 := Lib.hid (fun W h => l00HasX_any W u2 e2 e1[k] h)
            have hk0 : (0 : Int) ≤ (k : Int) := by omega
            have hk1 : (k : Int) < (e1.length : Int) := by omega
            have HF := Lib.hid hf
            clear hf hcx rx ex2 ex3 hnx hbx
            generalize e1[k] = y at *
            by_cases hya : y ≤ (a : Int)
            · have HX : Hid (flG (a : Int) e2 (e1.drop (k + 1)) m = lossO (pth l) S a) := by show _ = _; have := HF.out; rwa [if_pos hya] at this
              have t2 : decide (y ≤ (a : Int)) = true := decide_eq_true hya
              clear HF
              go_wp2_with fail
              go_round
              case rel => exact ⟨k + 1, m, by omega, by go_num, rfl, m0, by omega, HX.out⟩
              case measure => simp [intOf]; omega
            · have t2 : decide (y ≤ (a : Int)) = false := decide_eq_false hya
              by_cases hin : y ∈ e2
              · have HX : Hid (lossO (pth l) S a = some (m + 1, y)) := by show _ = _; have := HF.out; rw [if_neg hya, if_pos hin] at this; exact this.symm
                have hct : e2.contains y = true := List.contains_iff_mem.2 hin
                rw [hct] at HH8
                clear HF hin hct
                go_wp2_with fail
                refine (HH8.out _ HE8.out).mono ?_; rintro e w' ⟨rfl, rfl⟩
                go_wp2_with fail
                go_quiet (fail)
                go_wp2_with fail
                go_ret3
                exact ⟨by rw [HR.out, HX.out] <;> rfl, below_drewN HB8.out _⟩
              · have HX : Hid (flG (a : Int) e2 (e1.drop (k + 1)) (m + 1) = lossO (pth l) S a) := by show _ = _; have := HF.out; rwa [if_neg hya, if_neg hin] at this
                have hct : e2.contains y = false := by
                  cases e : e2.contains y
                  · rfl
                  · exact absurd (List.contains_iff_mem.1 e) hin
                rw [hct] at HH8
                clear HF hin hct
                go_wp2_with fail
                refine (HH8.out _ HE8.out).mono ?_; rintro e w' ⟨rfl, rfl⟩
                go_wp2_with fail
                go_round
                case rel => exact ⟨k + 1, m + 1, by omega, by go_num, rfl, by omega, by omega, HX.out⟩
                case measure => simp [intOf]; omega
          · have HX : Hid (lossO (pth l) S a = none) := by show _ = _; rw [← hf, List.drop_of_length_le (by omega)]; rfl
            clear hf
            go_wp2_with fail
            go_ret3
            exact ⟨by rw [HR.out, HX.out] <;> rfl, HB8.out⟩
end Go.Proofs.Ytijmfienaoeboaa
