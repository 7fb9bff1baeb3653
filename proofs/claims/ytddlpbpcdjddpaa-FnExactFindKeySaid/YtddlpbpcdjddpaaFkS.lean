/- The model's FindKey. -/
import Derived.Test.YtddlpbpcdjddpaaFkI
import Derived.Test.YtddlpbpcdjddpaaSbd
import Derived.Test.YtddlpbpcdjddpaaAds
namespace Go.Proofs.Ytddlpbpcdjddpaa
open Go Go.RowKit
set_option linter.unusedVariables false
theorem gb_app (a b : List UInt8) : gb (a ++ b) = gb a ++ gb b := by simp [gb]
theorem fk_step (a b : ByteArray) (k : Nat) (hka : k < a.size) (hkb : k < b.size) (ha : inR 48 49 a.data.toList = true) (hb : inR 48 49 b.data.toList = true) :
    gb (xorB a.data.toList b.data.toList (k + 1)) = gb (xorB a.data.toList b.data.toList k) ++ [(a[k].toNat - 48) ^^^ (b[k].toNat - 48)] := by
  rw [xorB_succ, gb_app]
  congr 1
  have h1 : k < a.data.toList.length := by simpa using hka
  have h2 : k < b.data.toList.length := by simpa using hkb
  have e1 := inR_two ha k h1
  have e2 := inR_two hb k h2
  rw [List.getElem?_eq_getElem h1, List.getElem?_eq_getElem h2]
  have f1 : a.data.toList[k] = a[k] := rfl
  have f2 : b.data.toList[k] = b[k] := rfl
  rw [f1] at e1 ⊢
  rw [f2] at e2 ⊢
  rcases e1 with e | e <;> rcases e2 with f | f <;> rw [e, f] <;> decide
theorem ownN_take {w : World} {B n c k : Nat} {A : Option Addr} {q : List Nat} (h : OwnN w B (.slice A n c) q) (hk : k ≤ q.length) (h0 : 0 < k) : OwnN w B (.slice A k c) (q.take k) := by
  rcases h.2 with ⟨e, hz⟩ | ⟨g, cap, cur, e, h1, hg, h2, h3, h4, h5⟩
  · have := h.1; rw [natVals_length] at this; omega
  · injection e with e1 e2 e3
    subst e1; subst e2; subst e3
    have hl : (q.take k).length = k := by rw [List.length_take]; omega
    refine ⟨by rw [natVals_length, Nat.mul_one], .inr ⟨g, c, cur, by rw [hl], h1, hg, by rw [hl]; omega, h3, h4, ?_⟩⟩
    rw [hl, Nat.mul_one]
    have e9 : natVals (q.take k) = (natVals q).take k := by unfold natVals; rw [List.map_take]
    rw [e9, ← h5, List.take_take, Nat.mul_one, Nat.min_eq_left hk]
set_option maxRecDepth 100000 in
set_option maxHeartbeats 4000000 in
theorem findKey_spec (w : World) (v : Value) (l : List Int) (a b : ByteArray) (hb : ∀ n ∈ l, -9223372036854775808 ≤ n ∧ n ≤ 9223372036854775807) (ha : a.size ≤ maxLen) (hb2 : b.size ≤ maxLen) (h : Rd w v l) :
    Calls Try.prog 21 #[v, .string a, .string b] w fun e w' =>
      e = .returned (.tuple #[.string (fkV l a.data.toList b.data.toList), .bool (fkOk l a.data.toList b.data.toList)]) ∧ Below w.heap.size w w' := by
  have hE : fkOk l a.data.toList b.data.toList = (fkIn l a.data.toList b.data.toList && decide (fkG l a.data.toList b.data.toList = fkK a.data.toList b.data.toList)) := rfl
  have hI : fkIn l a.data.toList b.data.toList = (tpOk l && (isB a.data.toList && isB b.data.toList && decide (a.data.toList.length = b.data.toList.length) && decide (wid l ≤ (a.data.toList.length : Int)))) := rfl
  have hsz : a.data.toList.length = a.size := by simp
  have hsb : b.data.toList.length = b.size := by simp
  have HA := Lib.hid (fun W => l01Bits_any a W ha)
  have HBB := Lib.hid (fun W => l01Bits_any b W hb2)
  have HAT := Lib.hid (fun W h => l06Taps_any W v l hb h)
  have HRD := Lib.hid h
  have HASP := Lib.hid (fun W s hs h => addScramble_spec W v l s b hb hs hb2 h)
  obtain ⟨A, c, rfl⟩ := rd_shp h
  obtain ⟨n1, hn1⟩ : ∃ n1, n1 = l.length := ⟨_, rfl⟩
  rw [← hn1] at HRD HAT HASP ⊢
  rw [hsz, hsb] at hI
  cases ht : tpOk l
  · rw [ht, Bool.false_and] at hI
    rw [hI, Bool.false_and] at hE
    rw [ht] at HAT
    rw [fkV_no hE, hE]
    clear h hE hI hsz hsb hb ha hb2 hn1
    go_enter Try.func21, Try.ntmps21
    go_wp2_with fail
    refine (HAT.out _ HRD.out).mono ?_; rintro e w1 ⟨rfl, q, rfl⟩
    have HB1 := Lib.hid (below_drewN (Below.refl w.heap.size w) q)
    go_wp2_with fail
    go_ret2
    exact ⟨rfl, HB1.out⟩
  · rw [ht, Bool.true_and] at hI
    rw [ht] at HAT
    cases h1 : isB a.data.toList
    · rw [h1, Bool.false_and, Bool.false_and, Bool.false_and] at hI
      rw [hI, Bool.false_and] at hE
      rw [h1] at HA
      rw [fkV_no hE, hE]
      clear h hE hI hsz hsb hb ha hb2 hn1
      go_enter Try.func21, Try.ntmps21
      go_wp2_with fail
      refine (HAT.out _ HRD.out).mono ?_; rintro e w1 ⟨rfl, q, rfl⟩
      have HB1 := Lib.hid (below_drewN (Below.refl w.heap.size w) q)
      go_wp2_with fail
      refine (HA.out _).mono ?_; rintro e w2 ⟨rfl, rfl⟩
      go_wp2_with fail
      go_ret2
      exact ⟨rfl, HB1.out⟩
    · rw [h1, Bool.true_and] at hI
      rw [h1] at HA
      cases h2 : isB b.data.toList
      · rw [h2, Bool.false_and, Bool.false_and] at hI
        rw [hI, Bool.false_and] at hE
        rw [h2] at HBB
        rw [fkV_no hE, hE]
        clear h hE hI hsz hsb hb ha hb2 hn1
        go_enter Try.func21, Try.ntmps21
        go_wp2_with fail
        refine (HAT.out _ HRD.out).mono ?_; rintro e w1 ⟨rfl, q, rfl⟩
        have HB1 := Lib.hid (below_drewN (Below.refl w.heap.size w) q)
        go_wp2_with fail
        refine (HA.out _).mono ?_; rintro e w2 ⟨rfl, rfl⟩
        go_wp2_with fail
        refine (HBB.out _).mono ?_; rintro e w2 ⟨rfl, rfl⟩
        go_wp2_with fail
        go_ret2
        exact ⟨rfl, HB1.out⟩
      · rw [h2, Bool.true_and] at hI
        rw [h2] at HBB
        by_cases h3 : a.size = b.size
        · rw [decide_eq_true h3, Bool.true_and] at hI
          have hbn : ((a.size : Int) != (b.size : Int)) = false := by rw [h3]; simp
          have H3 := Lib.hid h3
          have hop : ∃ b0 o0, A = some ⟨b0, o0, none⟩ ∧ w.cell? ⟨b0, o0 + (n1 - 1), none⟩ = some (.int .i64 (wid l)) ∧ 0 < n1 ∧ n1 ≤ 16 := by
            obtain ⟨h0, hinc, hr⟩ := tpOk_parts ht
            obtain ⟨A', n', c', e, hn, -, -, r⟩ := HRD.out
            injection e with e1 e2 e3
            subst e1
            obtain ⟨b0, o0, ea, -, hc⟩ := r (by omega)
            refine ⟨b0, o0, ea, ?_, by omega, ?_⟩
            · have := hc (l.length - 1) (by omega)
              rw [← wid_at h0] at this
              rw [hn1]; exact this
            · have := tp_len hinc hr
              omega
          obtain ⟨b0, o0, rfl, hc0, hn0, hn16⟩ := hop
          have HC0 := Lib.hid hc0
          have k1 : IntKind.i64.wrap ((n1 : Int) - 1) = (n1 : Int) - 1 := IntWalk.i64_in _ (by omega)
          have k2 : (0 : Int) ≤ (n1 : Int) - 1 := by omega
          have k3 : (n1 : Int) - 1 < (n1 : Int) := by omega
          have k4 : ((n1 : Int) - 1).toNat = n1 - 1 := by omega
          clear hc0 h3
          by_cases h4 : wid l ≤ (a.size : Int)
          · rw [decide_eq_true h4] at hI
            rw [hI, Bool.true_and] at hE
            obtain ⟨m1, m2, m3, m4, m5, m6, m7, m8, m9, m10, m11, m12⟩ := fk_facts hI
            have HTEST := Lib.hid (fk_test hI)
            have HST := Lib.hid (fun k hk hk2 => fk_step a b k hk hk2 (isB_r h1).2 (isB_r h2).2)
            have HIA := Lib.hid (fun k hk => inR_at 48 49 a k hk (isB_r h1).2)
            have HIB := Lib.hid (fun k hk => inR_at 48 49 b k hk (isB_r h2).2)
            have HKE : Hid (gb (xorB a.data.toList b.data.toList a.size) = gb (fkK a.data.toList b.data.toList)) := by show _ = _; unfold fkK; rw [hsz]
            have hn4 : a.size ≤ 400 := by omega
            have HXL := Lib.hid (fun k => xorB_length a.data.toList b.data.toList k)
            have hlt : ¬ (a.size : Int) < wid l := by omega
            have hdec : decide (a.size < fkW l) = false := decide_eq_false (by omega)
            have HI9 := Lib.hid hI
            have HE9 := Lib.hid hE
            have HM1 := Lib.hid m1
            have HM2 := Lib.hid m2
            have HM3 := Lib.hid m3
            have HM4 := Lib.hid m4
            have HM5 := Lib.hid m5
            have HM8 := Lib.hid m8
            have HT9 := Lib.hid ht
            have HISB := Lib.hid h2
            have HN1 := Lib.hid hn1
            have HSZ := Lib.hid hsz
            have HH := Lib.hid h
            obtain ⟨i0, hi, hz0, hz1, hz2⟩ := info_parts Try.infoByte
            have HWN : Hid ((fkW l : Int) = wid l) := m8
            rw [← m8] at hlt HC0 h4
            clear h hE hI hsz hsb hb ha hb2 hn1 m1 m2 m3 m4 m5 m6 m7 m8 m12 h1 h2 ht
            go_enter Try.func21, Try.ntmps21
            go_wp2_with fail
            refine (HAT.out _ HRD.out).mono ?_; rintro e w1 ⟨rfl, q, rfl⟩
            have HB1 := Lib.hid (below_drewN (Below.refl w.heap.size w) q)
            have hc1 : (w.drewN q).cell? ⟨b0, o0 + (n1 - 1), none⟩ = some (.int .i64 (fkW l : Nat)) := by simpa using HC0.out
            have HR1 := Lib.hid (HRD.out.drewN q)
            generalize w.drewN q = W1 at *
            go_wp2_with fail
            refine (HA.out _).mono ?_; rintro e w2 ⟨rfl, rfl⟩
            go_wp2_with fail
            refine (HBB.out _).mono ?_; rintro e w2 ⟨rfl, rfl⟩
            go_wp2_with fail
            clear hbn hlt hdec
            go_loopw [9, 10] (fun u i wr => ∃ k : Nat, k ≤ a.size ∧ i = .int .i64 k ∧ OwnN wr W1.heap.size u (gb (xorB a.data.toList b.data.toList k)) ∧ Below W1.heap.size W1 wr) (fun _ i _ => a.size - (intOf i).toNat)
            case atStart => exact ⟨0, Nat.zero_le _, rfl, (World.ownsRow_made W1 #[] 0 (Nat.le_refl _) (by decide) rfl : OwnN _ _ _ []), (Below.refl _ _).alloc (Nat.le_refl _) _⟩
            case round =>
              obtain ⟨k, hk, rfl, hown, hbw⟩ := hrel
              have hlen : (gb (xorB a.data.toList b.data.toList k)).length = k := by rw [gb_len, HXL.out]
              by_cases hlt : k < a.size
              · have hltb : k < b.size := by have := H3.out; omega
                have hST := HST.out k hlt hltb
                have hIA := HIA.out k hlt
                have hIB := HIB.out k hltb
                have hk0 : (0 : Int) ≤ (k : Int) := by omega
                have hk1 : (k : Int) < (a.size : Int) := by omega
                have hk2 : (k : Int) < (b.size : Int) := by omega
                obtain ⟨y, hy⟩ : ∃ y, a[k].toNat = y := ⟨_, rfl⟩
                obtain ⟨y', hy'⟩ : ∃ y', b[k].toNat = y' := ⟨_, rfl⟩
                rw [hy] at hST hIA
                rw [hy'] at hST hIB
                obtain ⟨x, rfl⟩ : ∃ x, y = x + 48 := ⟨y - 48, by omega⟩
                obtain ⟨z, rfl⟩ : ∃ z, y' = z + 48 := ⟨y' - 48, by omega⟩
                have hx : x ≤ 1 := by omega
                have hz : z ≤ 1 := by omega
                rw [show x + 48 - 48 = x from by omega, show z + 48 - 48 = z from by omega] at hST
                have hcv : (((x + 48 : Nat) : Int) - 48) % 256 = (x : Int) := by omega
                have hcv2 : (((z + 48 : Nat) : Int) - 48) % 256 = (z : Int) := by omega
                have hxo := u8_xor hx hz
                have hwx : IntKind.u8.wrap (x : Int) = (x : Int) := by simp [IntKind.wrap, IntKind.signed, IntKind.bits]; omega
                have hwz : IntKind.u8.wrap (z : Int) = (z : Int) := by simp [IntKind.wrap, IntKind.signed, IntKind.bits]; omega
                obtain ⟨m, hm⟩ : ∃ m, x ^^^ z = m := ⟨_, rfl⟩
                rw [hm] at hxo hST
                have HT := Lib.hid hST
                have HBD := Lib.hid hbw.drew
                unfold OwnN at hown
                rw [hlen] at hown
                have HOD := Lib.hid (own_low (w := wr.drew) hown (Nat.le_refl _))
                clear hST hm hbw hown
                go_wp2_with fail
                go_region_law ((refine step_append_lies _ rfl _ _ 41 (by rfl) W1.heap.size 5 i0 (.int .u8 0) 1 1 Try.underlying41 hi hz0 hz1 hz2 rfl (by decide) _ k _ (by rfl) (World.ownsRow.alloc HOD.out _) ⟨wr.heap.size, 0, none⟩ 1 1 [.int .u8 (m : Int)] (by rfl) rfl (by exact c1_one _ _ _) (by intro u hu; simp at hu; subst hu; rfl) (by decide) (by unfold maxLen; omega) (by omega) (by have := HBD.out.size; simp at this ⊢; omega) (wr.heap.size + 1) (by simp) ?_; intro g9 cap w9 hown9 hgrow hat hlt9))
                all_goals
                  have hb9 := below_app (w1 := w9) HBD.out HBD.out.size HOD.out hgrow
                  have ho9 : OwnN w9 W1.heap.size (.slice (some ⟨g9, 0, none⟩) (k + 1) cap) (gb (xorB a.data.toList b.data.toList (k + 1))) := by
                    rw [HT.out]
                    have hh := ownN_snoc (w := w9) (base := W1.heap.size) (v := .slice (some ⟨g9, 0, none⟩) (k + 1) cap) (q := gb (xorB a.data.toList b.data.toList k)) (x := m)
                    rw [hlen] at hh
                    exact hh hown9
                  clear hown9 hgrow hat hlt9 hcv hcv2 hxo hwx hwz
                  go_wp2_with fail
                  go_roundw
                  case rel => exact ⟨k + 1, by omega, by go_num, ho9, hb9⟩
                  case measure => simp [intOf]; omega
              · obtain rfl : k = a.size := by omega
                rw [HKE.out] at hown hlen
                obtain ⟨g, c2, rfl, hg1, hg2, hg3, hg4⟩ := own_some hown (by rw [hlen]; omega)
                rw [hlen] at hown hg3 ⊢
                have hown2 : OwnN wr W1.heap.size (.slice (some ⟨g, 0, none⟩) (fkW l) c2) (fkM l a.data.toList b.data.toList) := ownN_take hown (by rw [hlen]; omega) (by omega)
                have HO2 := Lib.hid hown2
                have HB2 := Lib.hid hbw
                have HG2 := Lib.hid hg2
                have d1 : (0 : Int) ≤ (fkW l : Nat) := by omega
                have d2 : ((fkW l : Nat) : Int) ≤ (c2 : Int) := by omega
                have HFS : Hid (fkS l a.data.toList b.data.toList = bst l (fkM l a.data.toList b.data.toList) (fkW l)) := rfl
                have HWP : Hid (1 ≤ fkW l ∧ fkW l ≤ 16 ∧ fkW l ≤ 400) := ⟨m9, m10, by omega⟩
                have HR2 := Lib.hid (HR1.out)
                obtain ⟨wx, hwx⟩ : ∃ wx, wx = wr := ⟨_, rfl⟩
                subst hwx
                clear hown hown2 hbw hlen hg1 hg2 hg3 hg4 hlt hk HST HIA HIB HKE HXL h4 m9 m10 m11 hc1
                generalize fkM l a.data.toList b.data.toList = M at *
                generalize fkW l = W at *
                go_wp2_with fail
                clear d1 d2
                go_loopw [9, 11, 12] (fun u st i wr => ∃ k : Nat, k ≤ W ∧ i = .int .i64 k ∧ OwnN wr W1.heap.size u (bq l M k) ∧ OwnN wr W1.heap.size st (bst l M k) ∧ Apart u st ∧ Below W1.heap.size W1 wr) (fun _ _ i _ => W - (intOf i).toNat)
                case atStart => exact ⟨0, Nat.zero_le _, rfl, World.ownsRow.alloc HO2.out _, (World.ownsRow_made wx #[] 0 HB2.out.size (by decide) rfl : OwnN _ _ _ []), fun j h1 h2 => by { simp [Value.ownBlock] at h1 h2; have := HG2.out; omega }, HB2.out.alloc HB2.out.size _⟩
                case round =>
                  obtain ⟨k, hk, rfl, hou, host, hap, hbw⟩ := hrel
                  have hlu : (bq l M k).length = W + k := by rw [bq_len, HM1.out]
                  have hls : (bst l M k).length = k := bst_len l M k
                  by_cases hlt : k < W
                  · obtain ⟨gu, cu, rfl, hu1, hu2, hu3, hu4⟩ := own_some hou (by rw [hlu]; omega)
                    have hcells : ∀ j, j < W + k → wr.cell? ⟨gu, j, none⟩ = some (.int .u8 ((bq l M k).getD j 0 : Nat)) := by
                      intro j hj
                      obtain ⟨A', c', e', -, -, r3⟩ := OwnN.rdn hou
                      injection e' with e1 e2 e3
                      obtain ⟨b', o', ea, -, hcc⟩ := r3 (by omega)
                      rw [ea] at e1
                      injection e1 with e1
                      injection e1 with e1 e2 e3
                      have := hcc j (by omega)
                      rw [← e1, ← e2, Nat.zero_add] at this
                      exact this
                    have hSb : bitsN (bq l M k) := bq_bits HM2.out k
                    have hz1b : (bq l M k).getD (W - 1) 0 ≤ 1 := getD_bit hSb _
                    have hc0 := hcells (W - 1) (by omega)
                    have HCE := Lib.hid hcells
                    have HSB := Lib.hid (fun i => getD_bit hSb i)
                    have HBB2 := Lib.hid (fun j => bbF_le hSb W (l.dropLast.take j) ((bq l M k).getD (W - 1) 0) hz1b)
                    have HRW := Lib.hid (HR2.out.keep hbw)
                    have HTC : Hid (∀ j (hj : j < l.length), wr.cell? ⟨b0, o0 + j, none⟩ = some (.int .i64 (l[j]'hj))) := by
                      show ∀ _ _, _
                      intro j hj
                      obtain ⟨A', n', c', e', -, -, -, r⟩ := HRW.out
                      injection e' with e1 e2 e3
                      obtain ⟨b1, o1, ea, -, hcc⟩ := r (by omega)
                      rw [ea] at e1
                      cases e1
                      exact hcc j hj
                    have HBE : Hid (bbF l.dropLast (bq l M k) W ((bq l M k).getD (W - 1) 0) = bb l (bq l M k)) := by
                      show _ = _
                      unfold bb
                      rw [show (wid l).toNat = W from by have := HWN.out; omega]
                    have HBT : Hid (∀ j (hj : j + 1 < n1) (hj2 : j < l.length), bbF (l.dropLast.take (j + 1)) (bq l M k) W ((bq l M k).getD (W - 1) 0) = bbF (l.dropLast.take j) (bq l M k) W ((bq l M k).getD (W - 1) 0) ^^^ (bq l M k).getD (W - 1 - (l[j]'hj2).toNat) 0 ∧ 1 ≤ l[j]'hj2 ∧ l[j]'hj2 < (W : Int)) := by
                      show ∀ _ _ _, _
                      intro j hj hj2
                      have hdl : j < l.dropLast.length := by rw [List.length_dropLast]; have := HN1.out; omega
                      rw [List.take_succ_eq_append_getElem hdl, bbF_snoc, List.getElem_dropLast]
                      have hm : l.dropLast[j] ∈ l.dropLast := List.getElem_mem hdl
                      rw [List.getElem_dropLast] at hm
                      have := drop_mem HT9.out hm
                      exact ⟨rfl, this.1, by rw [HWN.out]; exact this.2⟩
                    have HBA : Hid (l.dropLast.take (n1 - 1) = l.dropLast) := List.take_of_length_le (by rw [List.length_dropLast]; have := HN1.out; omega)
                    have HSN : Hid (bst l M (k + 1) = bst l M k ++ [bb l (bq l M k)]) := bst_succ l M k
                    have HQN : Hid (bq l M (k + 1) = bb l (bq l M k) :: bq l M k) := rfl
                    have HOU := Lib.hid hou
                    have HOS := Lib.hid host
                    have HAP := Lib.hid hap
                    have HB3 := Lib.hid hbw
                    have HLU := Lib.hid hlu
                    have HLS := Lib.hid hls
                    have HZ0 : Hid (bbF (l.dropLast.take 0) (bq l M k) W ((bq l M k).getD (W - 1) 0) = (bq l M k).getD (W - 1) 0) := by show _ = _; rw [List.take_zero]; rfl
                    rw [hlu] at hu3 ⊢
                    have hW1 := HWP.out.1
                    have hW16 := HWP.out.2.1
                    have a1 : IntKind.i64.wrap ((W : Int) - 1) = (W : Int) - 1 := IntWalk.i64_in _ (by omega)
                    have a2 : (0 : Int) ≤ (W : Int) - 1 := by omega
                    have a3 : (W : Int) - 1 < ((W + k : Nat) : Int) := by omega
                    have a4 : ((W : Int) - 1).toNat = W - 1 := by omega
                    clear hou host hap hbw hlu hls hcells hSb hz1b hu1 hu2 hu4
                    generalize bb l (bq l M k) = m at *
                    obtain ⟨f, hf⟩ : ∃ f : Nat → Nat, f = fun j => bbF (l.dropLast.take j) (bq l M k) W ((bq l M k).getD (W - 1) 0) := ⟨_, rfl⟩
                    have HF0 : Hid (f 0 = (bq l M k).getD (W - 1) 0) := by show _ = _; rw [hf]; exact HZ0.out
                    have HF1 : Hid (f (n1 - 1) = m) := by show _ = _; rw [hf]; show bbF (l.dropLast.take (n1 - 1)) _ _ _ = m; rw [HBA.out]; exact HBE.out
                    have HFB : Hid (∀ j, f j ≤ 1) := by show ∀ _, _; intro j; rw [hf]; exact HBB2.out j
                    have HFT : Hid (∀ j (hj : j + 1 < n1) (hj2 : j < l.length), f (j + 1) = f j ^^^ (bq l M k).getD (W - 1 - (l[j]'hj2).toNat) 0 ∧ 1 ≤ l[j]'hj2 ∧ l[j]'hj2 < (W : Int)) := by show ∀ _ _ _, _; intro j hj hj2; rw [hf]; exact HBT.out j hj hj2
                    clear hf HZ0 HBE HBT HBB2 HBA
                    rw [← HF0.out] at hc0
                    go_wp2_with fail
                    clear hc0
                    go_loop [14, 15] (fun bt t => ∃ j : Nat, j ≤ n1 - 1 ∧ t = .int .i64 j ∧ bt = .int .u8 (f j : Nat)) (fun _ t => n1 - (intOf t).toNat)
                    case atStart => exact ⟨0, by omega, rfl, rfl⟩
                    case round =>
                      obtain ⟨j, hj, rfl, rfl⟩ := hrel
                      by_cases hj1 : j + 1 < n1
                      · have hjl : j < l.length := by have := HN1.out; omega
                        obtain ⟨t1, t2, t3⟩ := HFT.out j hj1 hjl
                        have hcl := HTC.out j hjl
                        obtain ⟨y, hy⟩ : ∃ y : Nat, l[j] = (y : Int) := ⟨(l[j]).toNat, by omega⟩
                        rw [hy] at hcl t1 t2 t3
                        rw [Int.toNat_natCast] at t1
                        have hc2 := HCE.out (W - 1 - y) (by omega)
                        have hz1 := HSB.out (W - 1 - y)
                        have hf1 := HFB.out j
                        have x1 := u8_xor hf1 hz1
                        rw [← t1] at x1
                        clear t1
                        generalize (bq l M k).getD (W - 1 - y) 0 = z at *
                        obtain ⟨fa, hfa⟩ : ∃ fa, f (j + 1) = fa := ⟨_, rfl⟩
                        obtain ⟨fj, hfj⟩ : ∃ fj, f j = fj := ⟨_, rfl⟩
                        rw [hfa, hfj] at x1
                        rw [hfj] at hf1 ⊢
                        have HFA := Lib.hid hfa
                        have w1 : IntKind.u8.wrap (fj : Int) = (fj : Int) := by simp [IntKind.wrap, IntKind.signed, IntKind.bits]; omega
                        have w2 : IntKind.u8.wrap (z : Int) = (z : Int) := by simp [IntKind.wrap, IntKind.signed, IntKind.bits]; omega
                        have j1 : (0 : Int) ≤ (j : Int) := by omega
                        have j2 : (j : Int) < (n1 : Int) := by omega
                        have j3 : (j : Int) + 1 < (n1 : Int) := by omega
                        have b1 : IntKind.i64.wrap ((W : Int) - 1 - (y : Int)) = (W : Int) - 1 - (y : Int) := IntWalk.i64_in _ (by omega)
                        have b2 : (0 : Int) ≤ (W : Int) - 1 - (y : Int) := by omega
                        have b3 : (W : Int) - 1 - (y : Int) < ((W + k : Nat) : Int) := by omega
                        have b4 : ((W : Int) - 1 - (y : Int)).toNat = W - 1 - y := by omega
                        clear hfa hfj
                        go_wp2_with fail
                        go_round
                        case rel => exact ⟨j + 1, by omega, by go_num, by rw [HFA.out]⟩
                        case measure => simp [intOf]; omega
                      · have hj2 : j = n1 - 1 := by omega
                        subst hj2
                        have hneg : ¬ ((n1 - 1 : Nat) : Int) + 1 < (n1 : Int) := by omega
                        rw [HF1.out]
                        go_wp2_with (at_builtin; refine wpList_append_lies _ rfl _ _ 41 rfl W1.heap.size 5 i0 (.int .u8 0) 1 1 Try.underlying41 hi hz0 hz1 hz2 rfl (by decide) _ _ _ rfl (World.ownsRow.alloc HOS.out _) ⟨wr.heap.size, 0, none⟩ 1 1 [.int .u8 (m : Int)] rfl rfl ?c1 ?c2 (by decide) ?c3 ?c4 ?c5 (wr.heap.size + 1) (by simp) ?_)
                        try (case c1 => exact c1_one _ _ _)
                        case c2 => first | rfl | (intro u hu; simp at hu; subst hu; rfl)
                        case c3 => first | (rw [HLS.out]; unfold maxLen; omega) | (simp [HLS.out]; unfold maxLen; omega) | (unfold maxLen; omega)
                        case c4 => first | (rw [HLS.out]; omega) | (simp [HLS.out]; omega) | omega
                        case c5 => have := HB3.out.size; first | omega | (simp; omega)
                        intro g9 cap w9 hown9 hgrow9 hat9 hlt9
                        have HB9 := Lib.hid (below_app HB3.out HB3.out.size HOS.out hgrow9)
                        have HS9 : Hid (OwnN w9 W1.heap.size (.slice (some ⟨g9, 0, none⟩) ((bst l M k).length + 1) cap) (bst l M k ++ [m])) := ownN_snoc hown9
                        have hq9 := apN_other HOU.out HAP.out hgrow9
                        rw [HLU.out] at hq9
                        have hguw : gu < w9.heap.size := (World.ownsRow.lt hq9 gu rfl).2
                        have HNW : Hid (∀ j x, (natVals (bq l M k))[j]? = some x → (w9.alloc (.cells #[.int .u8 (m : Int)] 5)).cell? ((⟨gu, 0, none⟩ : Addr).add j) = some x) := by
                          show ∀ _ _, _ → _
                          intro j x hx
                          have hq9' := hq9.rdn
                          unfold natVals at hx
                          rw [List.getElem?_map] at hx
                          cases e : (bq l M k)[j]? with
                          | none => rw [e] at hx; cases hx
                          | some y =>
                            rw [e] at hx
                            injection hx with hx
                            have hlt := (List.getElem?_eq_some_iff.1 e).1
                            obtain ⟨A', c', e', -, -, r3⟩ := hq9'
                            injection e' with e1 e2 e3
                            obtain ⟨b', o', ea, -, hcc⟩ := r3 (by omega)
                            rw [ea] at e1
                            injection e1 with e1
                            injection e1 with e1 e2 e3
                            have h7 := hcc j hlt
                            rw [← e1, ← e2, Nat.zero_add] at h7
                            have h8 := (((Below.refl w9.heap.size w9).alloc (Nat.le_refl _) (.cells #[.int .u8 (m : Int)] 5)).cell (p := ⟨gu, j, none⟩) hguw).trans h7
                            rw [show (⟨gu, 0, none⟩ : Addr).add j = ⟨gu, j, none⟩ from by simp [Addr.add]; intro h; omega, h8, ← hx, List.getD, e]
                            rfl
                        have HOWM : Hid ((w9.alloc (.cells #[.int .u8 (m : Int)] 5)).ownsRow w9.heap.size 5 1 (.slice (some ⟨w9.heap.size, 0, none⟩) 1 1) 1 [.int .u8 (m : Int)]) := ⟨rfl, .inr ⟨w9.heap.size, 1, #[.int .u8 (m : Int)], rfl, Nat.le_refl _, heap_alloc_new w9 _, Nat.le_refl _, by decide, rfl, rfl⟩⟩
                        clear hown9 hgrow9 hat9 hlt9 hq9 hneg
                        go_wp2_with (at_builtin; refine wpList_append_own _ rfl _ _ 41 rfl w9.heap.size 5 i0 (.int .u8 0) 1 1 Try.underlying41 hi hz0 hz1 hz2 rfl (by decide) _ 1 _ rfl HOWM.out ⟨gu, 0, none⟩ (W + k) cu (natVals (bq l M k)) rfl ?e0 ?e1 ?e2 ?e3 ?e4 ?e5 ?_)
                        case e0 => rw [natVals_length, HLU.out]; omega
                        case e1 => exact HNW.out
                        case e2 => intro u hu; unfold natVals at hu; obtain ⟨y, -, rfl⟩ := List.mem_map.1 hu; rfl
                        case e3 => unfold maxLen; omega
                        case e4 => omega
                        case e5 => simp
                        intro v8 w8 hown8 hgrow8 _
                        have hb8 : Below w9.heap.size w9 w8 := ((Below.refl _ _).alloc (Nat.le_refl _) _).grown hgrow8 (by simp) (fun i hk => by simp [Value.ownBlock] at hk; omega)
                        have ho8 : OwnN w8 w9.heap.size v8 (m :: bq l M k) := by
                          unfold OwnN
                          rw [List.length_cons, HLU.out, show W + k + 1 = 1 + (W + k) from by omega]
                          exact hown8
                        have hs8 := OwnN.keep HS9.out hb8
                        have hap8 : Apart v8 (.slice (some ⟨g9, 0, none⟩) ((bst l M k).length + 1) cap) := fun j h1 h2 => by
                          have := (World.ownsRow.lt ho8 j h1).1
                          have := (World.ownsRow.lt HS9.out j h2).2
                          omega
                        clear hown8 hgrow8
                        go_wp2_with fail
                        go_roundw
                        case rel => exact ⟨k + 1, by omega, by go_num, by rw [HQN.out]; exact OwnN.low ho8 HB9.out.size, by rw [HSN.out]; exact hs8, hap8, HB9.out.trans (hb8.mono HB9.out.size)⟩
                        case measure => simp [intOf]; omega
                  · have hkW : k = W := by omega
                    rw [hkW, ← HFS.out] at host
                    have HTX := Lib.hid (l06Text_any wr _ (fkS l a.data.toList b.data.toList) HM4.out (by rw [HM3.out]; have := HWP.out; omega) host.rdn)
                    obtain ⟨As, cs, rfl⟩ := own_shape host
                    have HB4 := Lib.hid hbw
                    clear hou host hap hbw hlu hls hkW
                    go_wp2_with fail
                    refine HTX.out.mono ?_; rintro e w5 ⟨rfl, hb5⟩
                    have HB5 := Lib.hid (HB4.out.trans (hb5.mono HB4.out.size))
                    clear hb5
                    go_wp2_with fail
                    have HRX := Lib.hid (HR2.out.keep (HB5.out.alloc HB5.out.size (.cells #[.slice (some ⟨b0, o0, none⟩) n1 c, .string ⟨(tx (fkS l a.data.toList b.data.toList)).toArray⟩] 28)))
                    have hadd := HASP.out _ ⟨(tx (fkS l a.data.toList b.data.toList)).toArray⟩ (by rw [ba_size, tx_len, HM3.out]; have := HWP.out; unfold maxLen; omega) HRX.out
                    rw [ba_list] at hadd
                    have hscb : scbOk l (tx (fkS l a.data.toList b.data.toList)) b.data.toList = true := by unfold scbOk; rw [HM5.out, HISB.out]; rfl
                    rw [hscb, adV_yes hscb] at hadd
                    have HADD := Lib.hid hadd
                    have HBX := Lib.hid (HB5.out.alloc HB5.out.size (.cells #[.slice (some ⟨b0, o0, none⟩) n1 c, .string ⟨(tx (fkS l a.data.toList b.data.toList)).toArray⟩] 28))
                    have HBKX : Hid (Bk (w5.alloc (.cells #[.slice (some ⟨b0, o0, none⟩) n1 c, .string ⟨(tx (fkS l a.data.toList b.data.toList)).toArray⟩] 28)) w5.heap.size (scV (.slice (some ⟨b0, o0, none⟩) n1 c) ⟨(tx (fkS l a.data.toList b.data.toList)).toArray⟩)) := Bk.new w5 (scV _ _) 28 _ rfl
                    clear hadd hscb
                    refine HADD.out.mono ?_; rintro e w7 ⟨rfl, hb7⟩
                    have HB7 := Lib.hid (HBX.out.trans (hb7.mono HBX.out.size))
                    obtain ⟨q0, q1⟩ := sc_all (HBKX.out.keep hb7)
                    clear hb7
                    by_cases hts : adL l (tx (fkS l a.data.toList b.data.toList)) b.data.toList = a.data.toList
                    · have hE := HE9.out
                      rw [decide_eq_true (HTEST.out.1 hts)] at hE
                      have HEE := Lib.hid hE
                      have hXa : (⟨(adL l (tx (fkS l a.data.toList b.data.toList)) b.data.toList).toArray⟩ : ByteArray) = a := by rw [hts]
                      rw [hXa]
                      clear hts hE hXa HTEST HE9 HI9
                      go_wp2_with fail
                      go_ret2
                      exact ⟨by rw [fkV_yes HEE.out, HEE.out]; rfl, HB1.out.trans (HB7.out.mono HB1.out.size)⟩
                    · have hE := HE9.out
                      rw [decide_eq_false (fun e => hts (HTEST.out.2 e))] at hE
                      have HEE := Lib.hid hE
                      have hne := str_neF (a := (⟨(adL l (tx (fkS l a.data.toList b.data.toList)) b.data.toList).toArray⟩ : ByteArray)) (b := a) (fun e => hts (congrArg (fun z : ByteArray => z.data.toList) e))
                      generalize (⟨(adL l (tx (fkS l a.data.toList b.data.toList)) b.data.toList).toArray⟩ : ByteArray) = X at *
                      clear hts hE HTEST HE9 HI9
                      go_wp2_with fail
                      go_ret2
                      exact ⟨by rw [fkV_no HEE.out, HEE.out]; rfl, HB1.out.trans (HB7.out.mono HB1.out.size)⟩
          · rw [decide_eq_false h4] at hI
            rw [hI, Bool.false_and] at hE
            have h5 : (a.size : Int) < wid l := by omega
            rw [fkV_no hE, hE]
            generalize wid l = Wd at *
            clear h hE hI hsz hsb hb ha hb2 hn1
            go_enter Try.func21, Try.ntmps21
            go_wp2_with fail
            refine (HAT.out _ HRD.out).mono ?_; rintro e w1 ⟨rfl, q, rfl⟩
            have HB1 := Lib.hid (below_drewN (Below.refl w.heap.size w) q)
            have hc1 : (w.drewN q).cell? ⟨b0, o0 + (n1 - 1), none⟩ = some (.int .i64 Wd) := by simpa using HC0.out
            go_wp2_with fail
            refine (HA.out _).mono ?_; rintro e w2 ⟨rfl, rfl⟩
            go_wp2_with fail
            refine (HBB.out _).mono ?_; rintro e w2 ⟨rfl, rfl⟩
            go_wp2_with fail
            go_ret2
            exact ⟨rfl, HB1.out⟩
        · rw [decide_eq_false h3, Bool.false_and] at hI
          rw [hI, Bool.false_and] at hE
          have hbn : ((a.size : Int) != (b.size : Int)) = true := bne_iff_ne.2 (by omega)
          clear h3
          rw [fkV_no hE, hE]
          clear h hE hI hsz hsb hb ha hb2 hn1
          go_enter Try.func21, Try.ntmps21
          go_wp2_with fail
          refine (HAT.out _ HRD.out).mono ?_; rintro e w1 ⟨rfl, q, rfl⟩
          have HB1 := Lib.hid (below_drewN (Below.refl w.heap.size w) q)
          go_wp2_with fail
          refine (HA.out _).mono ?_; rintro e w2 ⟨rfl, rfl⟩
          go_wp2_with fail
          refine (HBB.out _).mono ?_; rintro e w2 ⟨rfl, rfl⟩
          go_wp2_with fail
          go_ret2
          exact ⟨rfl, HB1.out⟩
end Go.Proofs.Ytddlpbpcdjddpaa
