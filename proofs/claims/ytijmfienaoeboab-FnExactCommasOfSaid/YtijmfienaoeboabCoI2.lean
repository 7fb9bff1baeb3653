/- The program's CommasOf. -/
import Derived.Test.YtijmfienaoeboabCoP2
import Derived.Test.YtijmfienaoeboabOwn
namespace Go.Proofs.Ytijmfienaoeboab
open Go Go.RowKit
set_option linter.unusedVariables false

theorem ret_ub2 {u : Value} {c d : Bool} (h : c = d) : Ending.returned (.tuple #[u, .bool c]) = .returned (.tuple #[u, .bool d]) := by rw [h]
theorem Bk.lt {W W' : World} {b B : Nat} {cs : List Value} (h : Bk W b cs) (hb : Below B W W') (hlt : b < B) : Bk W' b cs :=
  ⟨fun i x hx => (hb.cell (p := ⟨b, i, none⟩) hlt).trans (h.1 i x hx), fun i hi => (hb.frozen (p := ⟨b, i, none⟩) hlt).trans (h.2.1 i hi), Nat.lt_of_lt_of_le h.2.2 hb.size⟩
theorem pow_num (L : Nat) (h : L ≤ 8) : ∃ N : Nat, 2 ^ L = N ∧ wrap64 ((2 : Int) ^ L) = (N : Int) ∧ (2 : Int) ^ L = (N : Int) ∧ N ≤ 256 := by
  refine ⟨2 ^ L, rfl, ?_⟩
  rcases (show L = 0 ∨ L = 1 ∨ L = 2 ∨ L = 3 ∨ L = 4 ∨ L = 5 ∨ L = 6 ∨ L = 7 ∨ L = 8 from by omega) with rfl | rfl | rfl | rfl | rfl | rfl | rfl | rfl | rfl <;> exact ⟨by decide +kernel, by decide +kernel, by decide +kernel⟩

set_option maxRecDepth 100000 in
set_option maxHeartbeats 4000000 in
theorem commasOf_impl (w : World) (d wd len : Int) (vm vp : Value) (m p : List ByteArray) (mx : Int) (hm : RdS w vm m) (hp : RdS w vp p) (hl0 : -9223372036854775808 ≤ len) (hl1 : len ≤ 9223372036854775807) (hmx : w.cell? ⟨0, 0, none⟩ = some (.int .i64 mx)) (sm : ∀ s ∈ m, s.size ≤ 4000000) (sp : ∀ s ∈ p, s.size ≤ 4000000) (lm : m.length ≤ 4000000) (lp : p.length ≤ 4000000) :
    Calls Try.prog 56 #[.agg #[.int .i64 d, .int .i64 wd, vm, vp], .int .i64 len] w fun e w' => ∃ u, e = .returned (.tuple #[u, .bool (coOk d wd m p len)]) ∧ OwnT w' w.heap.size u (coV d wd m p len) ∧ Below w.heap.size w w' := by
  obtain ⟨A1, n1, c1, rfl⟩ := rds_sh2 hm
  obtain ⟨A2, n2, c2, rfl⟩ := rds_sh2 hp
  have HB0 : Hid (Below w.heap.size w (w.alloc (.cells #[.int .i64 d, .int .i64 wd, .slice A1 n1 c1, .slice A2 n2 c2] 61))) := (Below.refl _ _).alloc (Nat.le_refl _) _
  have HK0 : Hid (Bk (w.alloc (.cells #[.int .i64 d, .int .i64 wd, .slice A1 n1 c1, .slice A2 n2 c2] 61)) w.heap.size (bcV d wd (.slice A1 n1 c1) (.slice A2 n2 c2))) := Bk.new w (bcV d wd (.slice A1 n1 c1) (.slice A2 n2 c2)) 61 _ rfl
  have HV := Lib.hid (validBlockCode_impl _ d wd (.slice A1 n1 c1) (.slice A2 n2 c2) m p (hm.keep HB0.out) (hp.keep HB0.out) sm sp lp)
  have HZ0 : Hid (0 < w.heap.size) := by
    show 0 < _
    obtain ⟨o, ho, -⟩ := cells_of_cell hmx
    exact (Array.getElem?_eq_some_iff.1 ho).1
  have HMX := Lib.hid hmx
  have HM := Lib.hid hm
  have HP := Lib.hid hp
  obtain ⟨i0, hi, hz0, hz1, hz2⟩ := info_parts Try.infoStr
  clear hm hp sm sp hmx
  cases hok : bcOk d wd m p
  · have HE : Hid (coOk d wd m p len = false) := by show _ = _; unfold coOk; rw [hok]; rfl
    have HEV : Hid (coV d wd m p len = []) := by show _ = _; unfold coV; rw [if_neg (by rw [HE.out]; decide)]
    rw [hok] at HV
    clear hok
    go_enter Try.func56, Try.ntmps56
    go_wp2_with fail
    refine HV.out.mono ?_; rintro e w1 ⟨rfl, hb1⟩
    have HB1 := Lib.hid (HB0.out.trans (hb1.mono HB0.out.size))
    clear hb1
    go_wp2_with fail
    go_ret2
    exact ⟨_, ret_ub2 HE.out.symm, by rw [HEV.out]; exact World.ownsRow_nil _ _ _ _, HB1.out⟩
  · rw [hok] at HV
    have hnum := (bcOk_nums hok).1
    have hne := bcOk_ne hok
    obtain ⟨hwb0, hwb1⟩ : 2 ≤ wd ∧ wd ≤ 12 := by omega
    have HCO := Lib.hid (fun pat W hm hp hp4 h0 => canContain_any W d wd A1 A2 n1 n2 c1 c2 m p pat mx hm hp hok hp4 h0 lm lp)
    have HPM := Lib.hid (fun (pat : ByteArray) hpn => pc_mc (m := m) (p := p) pat.data.toList hpn hne.1 hne.2)
    obtain ⟨M, hM⟩ : ∃ M, M = min 8 (wd + 1) := ⟨_, rfl⟩
    have hMb : 3 ≤ M ∧ M ≤ 8 := by omega
    obtain ⟨hMb0, hMb1⟩ := hMb
    by_cases hbt : 1 ≤ len ∧ len ≤ M
    · obtain ⟨t1, t2⟩ := hbt
      have HBT := Lib.hid (fun W => btw_yes len 1 M W t1 t2)
      have HE : Hid (coOk d wd m p len = true) := by show _ = _; unfold coOk; rw [hok, decide_eq_true ⟨t1, by rw [← hM]; exact t2⟩]; rfl
      obtain ⟨L, rfl⟩ := Int.eq_ofNat_of_zero_le (show 0 ≤ len by omega)
      have HEV : Hid (coV d wd m p (L : Int) = coF m p L (2 ^ L)) := by show _ = _; unfold coV; rw [if_pos HE.out, Int.toNat_natCast]
      have hL1 : 1 ≤ L := by omega
      have hL8 : L ≤ 8 := by omega
      clear hne hnum hok
      rw [hM] at HBT
      go_enter Try.func56, Try.ntmps56
      go_wp2_with fail
      refine HV.out.mono ?_; rintro e w1 ⟨rfl, hb1⟩
      have HB1 := Lib.hid (HB0.out.trans (hb1.mono HB0.out.size))
      have HK1 := Lib.hid (HK0.out.keep hb1)
      obtain ⟨q0, q1, q2, q3⟩ := bk_all HK1.out
      clear hb1
      go_wp2_with fail
      refine (HBT.out _).mono ?_; rintro e w2 ⟨rfl, rfl⟩
      go_wp2_with fail
      obtain ⟨N, hN, hNw, hNi, hN2⟩ := pow_num L hL8
      rw [hNw]
      have HNI := Lib.hid hNi
      have HEV2 : Hid (coV d wd m p (L : Int) = coF m p L N) := by show _ = _; rw [HEV.out, hN]
      clear hNw hN hNi HEV q0 q1 q2 q3
      go_loopw [6, 24] (fun cs t wr => ∃ k : Nat, k ≤ N ∧ t = .int .i64 k ∧ OwnT wr (w.heap.size + 1) cs (coF m p L k) ∧ Bk wr w.heap.size (bcV d wd (.slice A1 n1 c1) (.slice A2 n2 c2)) ∧ Below w.heap.size w wr) (fun _ t _ => N - (intOf t).toNat)
      case atStart => exact ⟨0, Nat.zero_le _, rfl, World.ownsRow_nil _ _ _ _, HK1.out, HB1.out⟩
      case round =>
        clear HK1 HB1
        obtain ⟨k, hk, rfl, hown, hbk, hbl⟩ := hrel
        have OB := Lib.hid hown
        have HK := Lib.hid hbk
        have HB := Lib.hid hbl
        clear hown hbk hbl
        by_cases hlt : k < N
        · have HBO := Lib.hid (fun W => bitsOf_yes_impl (k : Int) L W (by omega) (by omega) (by rw [HNI.out]; omega))
          obtain ⟨T, hT⟩ : ∃ T, T = coW L k := ⟨_, rfl⟩
          have hT' : (⟨(digs (k : Int) L L).toArray⟩ : ByteArray) = T := hT.symm
          rw [hT'] at HBO
          have hTs : T.size = L := by rw [hT]; exact coW_size L k
          have hTn : T.data.toList ≠ [] := by
            intro e
            have h := (show T.data.toList.length = T.size by simp)
            rw [e] at h
            have h' : (0 : Nat) = T.size := h
            omega
          have hpm := HPM.out T hTn
          have HCA := Lib.hid (fun W hm hp h0 => HCO.out T W hm hp (by omega) h0)
          rw [hpm] at HCA
          have HY : Hid (mcB m p T.data.toList = false → coF m p L (k + 1) = coF m p L k ++ [T]) := by show _ → _; intro h; rw [hT] at h ⊢; exact coF_yes m p L k h
          have HNo : Hid (mcB m p T.data.toList = true → coF m p L (k + 1) = coF m p L k) := by show _ → _; intro h; rw [hT] at h; exact coF_no m p L k h
          have HLN := Lib.hid (coF_len m p L k)
          clear hT hT' hTn hpm hTs
          generalize coF m p L k = Q at *
          generalize mcB m p T.data.toList = R at *
          go_wp2_with fail
          refine (HBO.out _).mono ?_; rintro e w3 ⟨rfl, hb3⟩
          have HB3 := Lib.hid (HB.out.trans (hb3.mono HB.out.size))
          have O3 := Lib.hid (OwnT.keep OB.out hb3)
          have K3 := Lib.hid (HK.out.keep hb3)
          obtain ⟨q0, q1, q2, q3⟩ := bk_all K3.out
          clear hb3 OB HK HB
          go_wp2_with fail
          refine (HCA.out _ (HM.out.keep HB3.out) (HP.out.keep HB3.out) ((HB3.out.cell (p := ⟨0, 0, none⟩) HZ0.out).trans HMX.out)).mono ?_; rintro e w4 ⟨rfl, hb4⟩
          have HB4 := Lib.hid (HB3.out.trans (hb4.mono HB3.out.size))
          have O4 := Lib.hid (OwnT.keep O3.out hb4)
          have K4 := Lib.hid (K3.out.keep hb4)
          clear hb4 O3 K3 HB3 q0 q1 q2 q3
          cases R
          · have HQ := Lib.hid (HY.out rfl)
            have hown : w4.ownsRow (w.heap.size + 1) 9 1 u6 Q.length (strVals Q) := O4.out
            obtain ⟨Av, cv, rfl⟩ := ownt_shape hown
            have hql : Q.length ≤ 256 := by have := HLN.out; omega
            have hws : w.heap.size + 1 ≤ w4.heap.size := K4.out.2.2
            go_wp2_with (at_builtin; refine wpList_append_own _ rfl _ _ 22 rfl (w.heap.size + 1) 9 i0 (.string ByteArray.empty) 1 16 Try.underlying22 hi hz0 hz1 hz2 rfl (by decide) _ _ _ rfl (hown.alloc _) ⟨w4.heap.size, 0, none⟩ 1 1 [.string T] rfl rfl ?_ ?_ ?_ ?_ ?_ ?_)
            all_goals first | exact c1_one _ _ _ | rfl | (intro u hu; simp at hu; subst hu; rfl) | (unfold maxLen; first | omega | (simp; omega)) | (first | omega | (simp; omega)) | skip
            intro v1 w9 hown1 hgrow1 _
            have hb9 := below_app (Below.refl (w.heap.size + 1) w4) hws hown hgrow1
            have Q9 : Hid (OwnT w9 (w.heap.size + 1) v1 (Q ++ [T])) := by
              show OwnT _ _ _ _
              unfold OwnT; rw [List.length_append, ← strVals_snoc]; exact hown1
            have K9 := Lib.hid (K4.out.lt hb9 (Nat.lt_succ_self _))
            have B9 := Lib.hid (HB4.out.trans (hb9.mono (Nat.le_succ _)))
            clear hown hgrow1 hb9 hown1
            go_wp2_with fail
            go_roundw
            case rel => exact ⟨k + 1, by omega, by go_num, by rw [HQ.out]; exact Q9.out, K9.out, B9.out⟩
            case measure => simp [intOf]; omega
          · have HQ := Lib.hid (HNo.out rfl)
            go_wp2_with fail
            go_roundw
            case rel => exact ⟨k + 1, by omega, by go_num, by rw [HQ.out]; exact O4.out, K4.out, HB4.out⟩
            case measure => simp [intOf]; omega
        · obtain rfl : k = N := by omega
          go_wp2_with fail
          go_ret2
          exact ⟨_, ret_ub2 HE.out.symm, by rw [HEV2.out]; exact OwnT.base OB.out (Nat.le_succ _), HB.out⟩
    · have HBT := Lib.hid (fun W => btw_no len 1 M W hbt)
      have HE : Hid (coOk d wd m p len = false) := by show _ = _; unfold coOk; rw [← hM, decide_eq_false hbt]; simp
      have HEV : Hid (coV d wd m p len = []) := by show _ = _; unfold coV; rw [if_neg (by rw [HE.out]; decide)]
      rw [hM] at HBT
      clear hbt hne hnum hok
      go_enter Try.func56, Try.ntmps56
      go_wp2_with fail
      refine HV.out.mono ?_; rintro e w1 ⟨rfl, hb1⟩
      have HB1 := Lib.hid (HB0.out.trans (hb1.mono HB0.out.size))
      obtain ⟨q0, q1, q2, q3⟩ := bk_all (HK0.out.keep hb1)
      clear hb1
      go_wp2_with fail
      refine (HBT.out _).mono ?_; rintro e w2 ⟨rfl, rfl⟩
      go_wp2_with fail
      go_ret2
      exact ⟨_, ret_ub2 HE.out.symm, by rw [HEV.out]; exact World.ownsRow_nil _ _ _ _, HB1.out⟩
end Go.Proofs.Ytijmfienaoeboab
