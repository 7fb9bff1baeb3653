/- The model's DeframeBits. -/
import Derived.Test.YtllkojakeoennaaDfp
import Derived.Test.YtllkojakeoennaaUnb
namespace Go.Proofs.Ytllkojakeoennaa
open Go Go.RowKit
set_option linter.unusedVariables false

theorem ext_list (s : ByteArray) (i j : Nat) (h : j ≤ s.size) : (s.extract i j).data.toList = (s.data.toList.drop i).take (j - i) := by
  rw [ByteArray.data_extract]; simp [Array.toList_extract]
theorem occ_ext (s p : ByteArray) (k : Nat) (h : k + p.size ≤ s.size) : ((s.extract k (k + p.size)).toList == p.toList) = Lib.occAt s.data.toList p.data.toList k := by
  rw [Lib.occAt_iff_take _ _ _ (by simpa using h), ByteArray.toList_eq, ByteArray.toList_eq, ByteArray.data_extract]
  simp [Array.toList_extract]
theorem inR_ext (s : ByteArray) (i j : Nat) (h : j ≤ s.size) (hin : inR 48 49 s.data.toList = true) : inR 48 49 (s.extract i j).data.toList = true := by
  rw [ext_list s i j h]
  unfold inR at *
  rw [List.all_eq_true] at *
  intro x hx
  exact hin x (List.mem_of_mem_drop (List.mem_of_mem_take hx))
theorem ext_size (s : ByteArray) (i j : Nat) (h : j ≤ s.size) (hi : i ≤ j) : (s.extract i j).size = j - i := by
  have e : (s.extract i j).size = min j s.size - i := by simp
  rw [e]; omega
theorem ret_ub {u : Value} {c d : Bool} (h : c = d) : Ending.returned (.tuple #[u, .bool c]) = .returned (.tuple #[u, .bool d]) := by rw [h]
theorem own_str_nil (w : World) (base : Nat) : OwnT w base (.slice none 0 0) [] := World.ownsRow_nil _ _ _ _
theorem dfOne_yes {n : Nat} {d o : UInt8} {l : List UInt8} (h1 : l ≠ []) (h2 : unOk n d o l = true) : dfOne n d o l = [⟨(unF n d l).1.toArray⟩] := by unfold dfOne; rw [if_pos ⟨h1, h2⟩]
theorem dfOne_no {n : Nat} {d o : UInt8} {l : List UInt8} (h2 : unOk n d o l = false) : dfOne n d o l = [] := by unfold dfOne; rw [if_neg (by rw [h2]; simp)]
theorem dfOne_nil (n : Nat) (d o : UInt8) : dfOne n d o [] = [] := by unfold dfOne; rw [if_neg (by simp)]

set_option maxRecDepth 100000 in
set_option maxHeartbeats 2000000 in
theorem deframeBits_spec (w : World) (a b : Int) (s : ByteArray) (hs : s.size ≤ maxLen) :
    Calls Try.prog 28 #[.agg #[.int .i64 a, .int .i64 b], .string s] w fun e w' => ∃ u, e = .returned (.tuple #[u, .bool (dfOk a b s.data.toList)]) ∧ OwnT w' w.heap.size u (dfV a b s.data.toList) ∧ Below w.heap.size w w' := by
  obtain ⟨i0, hi, hz0, hz1, hz2⟩ := info_parts Try.infoStr
  have HB : Hid (Below w.heap.size w (w.alloc (.cells #[.int .i64 a, .int .i64 b] 25))) := (Below.refl _ _).alloc (Nat.le_refl _) _
  have HO := Lib.hid (blk_bk (sbl_new w a b))
  have HBI := Lib.hid (fun W => l01Bits_any s W hs)
  cases h1 : sOk a b
  · have e0 : dfOk a b s.data.toList = false := by unfold dfOk; rw [h1]; rfl
    rw [dfV_no e0, e0]
    have H1 := Lib.hid h1
    clear e0 h1 hs
    go_enter Try.func28, Try.ntmps28
    go_wp2_with fail
    refine (l04Is_any _ _ _ _ HO.out).mono ?_; rintro e w' ⟨rfl, rfl⟩
    rw [H1.out]
    go_wp2_with fail
    go_ret2
    exact ⟨_, rfl, own_str_nil _ _, HB.out⟩
  · cases h2 : isB s.data.toList
    · have e0 : dfOk a b s.data.toList = false := by unfold dfOk; rw [h1, h2]; rfl
      rw [dfV_no e0, e0]
      rw [h2] at HBI
      have H1 := Lib.hid h1
      clear e0 h1 h2 hs
      go_enter Try.func28, Try.ntmps28
      go_wp2_with fail
      refine (l04Is_any _ _ _ _ HO.out).mono ?_; rintro e w' ⟨rfl, rfl⟩
      rw [H1.out]
      go_wp2_with fail
      refine (HBI.out _).mono ?_; rintro e w' ⟨rfl, rfl⟩
      go_wp2_with fail
      go_ret2
      exact ⟨_, rfl, own_str_nil _ _, HB.out⟩
    · obtain ⟨ha, hb⟩ := sOk_p h1
      obtain ⟨p1, p2⟩ := isBt h2
      have hsz : s.size ≤ 400 := by simpa using p1
      have e0 : dfOk a b s.data.toList = true := by unfold dfOk; rw [h1, h2]; rfl
      obtain ⟨m, rfl⟩ : ∃ m : Nat, a = (m : Int) := ⟨a.toNat, by omega⟩
      have hV := dfV_yes e0
      have HVL := Lib.hid (dfV_len m b s.data.toList).1
      rw [show flG m b = (fl m (dB b) (oB b)).data.toList from by unfold fl flG flL; rw [Int.toNat_natCast], Int.toNat_natCast] at hV
      have HF : Hid (∀ W (q : Nat) (hk : Bk W q (sV m b)), Calls Try.prog 59 #[.pointer (some ⟨q, 0, none⟩)] W fun e w' => e = .returned (.string (fl m (dB b) (oB b))) ∧ Below W.heap.size W w') := by
        show ∀ W (q : Nat) (hk : Bk W q (sV m b)), _
        exact fun W q hk => l04Flag_any W q m b _ _ (dg_of hb) (by omega) hk
      have hps : (fl m (dB b) (oB b)).size ≤ 13 ∧ 0 < (fl m (dB b) (oB b)).size := by rw [fl_size]; omega
      have HUN : Hid (∀ W (q : Nat) (X : ByteArray) (hk : Bk W q (sV m b)) (hx : X.size ≤ 400) (hr : inR 48 49 X.data.toList = true), Calls Try.prog 57 #[.pointer (some ⟨q, 0, none⟩), .string X] W fun e w' => e = .returned (.tuple #[.string ⟨(unF m (dB b) X.data.toList).1.toArray⟩, .bool (unOk m (dB b) (oB b) X.data.toList)]) ∧ Below W.heap.size W w') := by
        show ∀ W (q : Nat) (X : ByteArray) (hk : Bk W q (sV m b)) (hx : X.size ≤ 400) (hr : inR 48 49 X.data.toList = true), _
        exact fun W q X hk hx hr => l04Unstuff_any W q m b _ _ X (dg_of hb) (by omega) hx hr hk
      have HIN := Lib.hid p2
      have H1 := Lib.hid h1
      rw [e0]
      rw [h2] at HBI
      clear e0 h1 h2 hs ha hb p1 p2
      generalize dfV m b s.data.toList = V at *
      generalize fl m (dB b) (oB b) = P at *
      generalize dB b = d at *
      generalize oB b = o at *
      obtain ⟨hp1, hp2⟩ := hps
      have hpl : P.data.toList.length = P.size := by simp
      have hsl : s.data.toList.length = s.size := by simp
      have HPL := Lib.hid hpl
      have HSL := Lib.hid hsl
      have HS0 : Hid (DfR m d o P.data.toList s.data.toList V [] 0 0 false) := ⟨by rw [hV]; rfl, Nat.le_refl _, fun j h1 h2 => by omega⟩
      clear hV hpl hsl
      go_enter Try.func28, Try.ntmps28
      go_wp2_with fail
      refine (l04Is_any _ _ _ _ HO.out).mono ?_; rintro e w' ⟨rfl, rfl⟩
      rw [H1.out]
      go_wp2_with fail
      refine (HBI.out _).mono ?_; rintro e w' ⟨rfl, rfl⟩
      go_wp2_with fail
      refine (HF.out _ _ HO.out).mono ?_; rintro e w1 ⟨rfl, hb1⟩
      have B1 := Lib.hid (HB.out.trans (hb1.mono HB.out.size))
      have O1 := Lib.hid (HO.out.keep hb1)
      clear hb1
      go_wp2_with fail
      go_loopw [7, 8, 9] (fun v f i wr => ∃ (st k : Nat) (Q : List ByteArray) (beh : Bool) (fv : Int), k ≤ s.size ∧ i = .int .i64 k ∧ f = .int .i64 fv ∧ ((beh = true ∧ fv = st) ∨ (beh = false ∧ fv = -1 ∧ st = 0)) ∧ DfR m d o P.data.toList s.data.toList V Q st k beh ∧ OwnT wr w1.heap.size v Q ∧ Below w1.heap.size w1 wr) (fun _ _ i _ => s.size + 1 - (intOf i).toNat)
      case atStart => exact ⟨0, 0, [], false, -1, Nat.zero_le _, rfl, rfl, Or.inr ⟨rfl, rfl, rfl⟩, HS0.out, World.ownsRow_made w1 #[] 0 (Nat.le_refl _) (by decide) rfl, (Below.refl _ _).alloc (Nat.le_refl _) _⟩
      case round =>
        obtain ⟨st, k, Q, beh, fv, hks, rfl, rfl, hbe, hdf, hown, hb⟩ := hrel
        have HD := Lib.hid hdf
        have hQ : Q.length ≤ 401 := by have h1 := HVL.out; rw [hdf.val, List.length_append] at h1; omega
        have hst := hdf.ord
        have HBW := Lib.hid (B1.out.trans (hb.mono B1.out.size))
        have HBL := Lib.hid hb
        have HOW := Lib.hid hown
        clear hdf hb
        by_cases hlt : k + P.size ≤ s.size
        · have h1 : (k : Int) + (P.size : Int) ≤ (s.size : Int) := by omega
          have t2 : ((k : Int) + (P.size : Int)).toNat = k + P.size := by omega
          have t3 : (0 : Int) ≤ (k : Int) := by omega
          have t4 : (k : Int) ≤ (k : Int) + (P.size : Int) := by omega
          have hq := occ_ext s P k hlt
          cases hoc : Lib.occAt s.data.toList P.data.toList k
          · have HN := Lib.hid (HD.out.next hoc)
            rw [hoc] at hq
            have hq' : ((s.extract k (k + P.size)).toList != P.toList) = true := by unfold bne; rw [hq]; rfl
            clear hoc hown
            go_wp2_with fail
            go_roundw
            case rel => exact ⟨st, k + 1, Q, beh, fv, by omega, by go_num, rfl, hbe, HN.out, HOW.out, HBL.out⟩
            case measure => simp [intOf]; omega
          · have HN := Lib.hid (HD.out.hit (by rw [HPL.out]; omega) (by rw [HPL.out, HSL.out]; omega) hoc)
            rw [hoc] at hq
            have hq' : ((s.extract k (k + P.size)).toList != P.toList) = false := by unfold bne; rw [hq]; rfl
            clear hoc
            rcases hbe with ⟨rfl, rfl⟩ | ⟨rfl, rfl, rfl⟩
            · by_cases hlt2 : st < k
              · have g1 : (st : Int) < (k : Int) := by omega
                have g2 : (0 : Int) ≤ (st : Int) := by omega
                have g3 : (st : Int) ≤ (k : Int) := by omega
                have g4 : (k : Int) ≤ (s.size : Int) := by omega
                have HXL := Lib.hid (ext_list s st k (by omega))
                have HXS := Lib.hid (ext_size s st k (by omega) (by omega))
                have HXR := Lib.hid (inR_ext s st k (by omega) HIN.out)
                have HNE : Hid ((s.data.toList.drop st).take (k - st) ≠ []) := by
                  show _ ≠ _
                  intro e
                  have := congrArg List.length e
                  rw [List.length_take, List.length_drop, HSL.out] at this
                  simp at this; omega
                cases hun : unOk m d o ((s.data.toList.drop st).take (k - st))
                · have HE := Lib.hid hun
                  have HN2 : Hid (DfR m d o P.data.toList s.data.toList V Q (k + P.size) (k + P.size) true) := by
                    have h := HN.out
                    rw [if_pos rfl, dfOne_no hun, List.append_nil, HPL.out] at h
                    exact h
                  clear hun hown
                  go_wp2_with fail
                  generalize hX : s.extract st k = X at *
                  refine (HUN.out _ _ X (O1.out.keep HBL.out) (by rw [HXS.out]; omega) HXR.out).mono ?_; rintro e w2 ⟨rfl, hb2⟩
                  have B2 := Lib.hid (HBL.out.trans (hb2.mono HBL.out.size))
                  have OW2 := Lib.hid (HOW.out.keep hb2)
                  clear hb2
                  rw [HXL.out, HE.out]
                  go_wp2_with fail
                  go_roundw
                  case rel => exact ⟨k + P.size, k + P.size, Q, true, _, by omega, by go_num, rfl, Or.inl ⟨rfl, by push_cast; rfl⟩, HN2.out, OW2.out, B2.out⟩
                  case measure => simp [intOf]; omega
                · have HE := Lib.hid hun
                  have HN2 : Hid (DfR m d o P.data.toList s.data.toList V (Q ++ [⟨(unF m d ((s.data.toList.drop st).take (k - st))).1.toArray⟩]) (k + P.size) (k + P.size) true) := by
                    have h := HN.out
                    rw [if_pos rfl, dfOne_yes HNE.out hun, HPL.out] at h
                    exact h
                  clear hun hown
                  go_wp2_with fail
                  generalize hX : s.extract st k = X at *
                  refine (HUN.out _ _ X (O1.out.keep HBL.out) (by rw [HXS.out]; omega) HXR.out).mono ?_; rintro e w2 ⟨rfl, hb2⟩
                  have B2 := Lib.hid (HBL.out.trans (hb2.mono HBL.out.size))
                  have OW2 : Hid (OwnT w2 w1.heap.size u7 Q) := HOW.out.keep hb2
                  clear hb2
                  rw [HXL.out, HE.out]
                  generalize (⟨(unF m d ((s.data.toList.drop st).take (k - st))).1.toArray⟩ : ByteArray) = Y at *
                  have hown : w2.ownsRow w1.heap.size 9 1 u7 Q.length (strVals Q) := OW2.out
                  obtain ⟨Av, cv, rfl⟩ := ownt_shape hown
                  go_wp2_with (at_builtin; refine wpList_append_own _ rfl _ _ 32 rfl w1.heap.size 9 i0 (.string ByteArray.empty) 1 16 Try.underlying32 hi hz0 hz1 hz2 rfl (by decide) _ _ _ rfl (hown.alloc _) ⟨w2.heap.size, 0, none⟩ 1 1 [.string Y] rfl rfl ?_ ?_ ?_ ?_ ?_ ?_)
                  all_goals first | exact c1_one _ _ _ | rfl | (intro u hu; simp at hu; subst hu; rfl) | (unfold maxLen; first | omega | (simp; omega)) | (first | omega | (simp; omega)) | (have := B2.out.size; simp at this ⊢; omega) | skip
                  intro v1 w3 hown1 hgrow1 _
                  have hb3 := below_app B2.out B2.out.size hown hgrow1
                  have OW3 : Hid (OwnT w3 w1.heap.size v1 (Q ++ [Y])) := by
                    show OwnT _ _ _ _
                    unfold OwnT; rw [List.length_append, ← strVals_snoc]; exact hown1
                  have B3 := Lib.hid hb3
                  clear hown hgrow1 hb3 hown1
                  go_wp2_with fail
                  go_roundw
                  case rel => exact ⟨k + P.size, k + P.size, Q ++ [Y], true, _, by omega, by go_num, rfl, Or.inl ⟨rfl, by push_cast; rfl⟩, HN2.out, OW3.out, B3.out⟩
                  case measure => simp [intOf]; omega
              · have g1 : ¬ (st : Int) < (k : Int) := by omega
                have HN2 : Hid (DfR m d o P.data.toList s.data.toList V Q (k + P.size) (k + P.size) true) := by
                  have h := HN.out
                  rw [if_pos rfl, show k - st = 0 from by omega, List.take_zero, dfOne_nil, List.append_nil, HPL.out] at h
                  exact h
                have g2 : (0 : Int) ≤ (st : Int) := by omega
                clear hown
                go_wp2_with fail
                go_roundw
                case rel => exact ⟨k + P.size, k + P.size, Q, true, _, by omega, by go_num, rfl, Or.inl ⟨rfl, by push_cast; rfl⟩, HN2.out, HOW.out, HBL.out⟩
                case measure => simp [intOf]; omega
            · have HN2 : Hid (DfR m d o P.data.toList s.data.toList V Q (k + P.size) (k + P.size) true) := by
                have h := HN.out
                rw [if_neg (by simp), List.append_nil, HPL.out] at h
                exact h
              clear hown
              go_wp2_with fail
              go_roundw
              case rel => exact ⟨k + P.size, k + P.size, Q, true, _, by omega, by go_num, rfl, Or.inl ⟨rfl, by push_cast; rfl⟩, HN2.out, HOW.out, HBL.out⟩
              case measure => simp [intOf]; omega
        · have h1 : ¬ (k : Int) + (P.size : Int) ≤ (s.size : Int) := by omega
          have hVQ := HD.out.done (by rw [HPL.out]; omega) (by rw [HPL.out, HSL.out]; omega)
          have OWV : Hid (OwnT wr w.heap.size u7 V) := by
            show OwnT _ _ _ _
            rw [hVQ]; exact HOW.out.base B1.out.size
          clear hVQ hown
          go_wp2_with fail
          go_ret2
          exact ⟨_, rfl, OWV.out, HBW.out⟩
end Go.Proofs.Ytllkojakeoennaa
