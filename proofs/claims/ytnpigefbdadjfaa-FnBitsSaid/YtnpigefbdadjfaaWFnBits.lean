/- The walk of the law FnBits. -/
import Derived.Test.YtnpigefbdadjfaaBiP
import Derived.Test.YtnpigefbdadjfaaB10
import Derived.Test.YtnpigefbdadjfaaBsN
import Derived.Test.YtnpigefbdadjfaaXorI
namespace Go.Proofs.Ytnpigefbdadjfaa
open Go Go.RowKit
set_option linter.unusedVariables false

theorem rdv_keepB {w w' : World} {v : Value} {l : List Value} (h : RdV (· < w.heap.size) w v l) (hb : Below w.heap.size w w') : RdV (· < w'.heap.size) w' v l := by
  obtain ⟨A, n, c, e, hn, h1, h2, h3⟩ := h.keep hb
  refine ⟨A, n, c, e, hn, h1, h2, fun h0 => ?_⟩
  obtain ⟨b, o, ea, hK, hlt, hc⟩ := h3 h0
  exact ⟨b, o, ea, hlt, hlt, hc⟩
theorem ba_at {G : ByteArray} {L : List UInt8} (hG : G = ⟨L.toArray⟩) (i : Nat) (h : i < G.size) : G[i] = L.getD i 0 := by
  subst hG
  have h' : i < L.length := by
    have : (⟨L.toArray⟩ : ByteArray).size = L.length := by show L.toArray.size = _; simp
    omega
  show L.toArray[i]'_ = _
  rw [List.getElem_toArray, List.getD, List.getElem?_eq_getElem h']; rfl
theorem ba_len {G : ByteArray} {L : List UInt8} (hG : G = ⟨L.toArray⟩) : L.length = G.size := by
  subst hG; show _ = L.toArray.size; simp
theorem ones_next {L : List UInt8} (h : inR 48 49 L = true) (k : Nat) (hk : k < L.length) : onesL (L.take (k + 1)) = onesL (L.take k) + (((L.getD k 0).toNat : Int) - 48) := by
  have h2 : 48 ≤ ((L.getD k 0).toNat : Int) ∧ ((L.getD k 0).toNat : Int) ≤ 49 := by
    rcases inR_getDB h k hk with e | e <;> rw [e] <;> decide
  rw [take_snocB L k hk, onesL_snoc _ _ h2]
theorem chN_new {L : List UInt8} {k : Nat} (h : k = 0 ∨ L.getD k 0 ≠ L.getD (k - 1) 0) (hk : k < L.length) : chN L (k + 1) = chN L k + 1 := by
  unfold chN
  rw [if_pos]
  · cases k <;> rfl
  · rcases h with h | h
    · exact .inl h
    · right
      intro e
      apply h
      rw [List.getD, List.getD, e]
theorem chN_old {L : List UInt8} {k : Nat} (h0 : 0 < k) (h : L.getD k 0 = L.getD (k - 1) 0) (hk : k < L.length) : chN L (k + 1) = chN L k := by
  show chN L k + _ = chN L k
  rw [if_neg]; rfl
  rintro (e | e)
  · omega
  · apply e
    rw [List.getElem?_eq_getElem hk, List.getElem?_eq_getElem (by omega)]
    rw [List.getD, List.getD, List.getElem?_eq_getElem hk, List.getElem?_eq_getElem (show k - 1 < L.length by omega)] at h
    exact congrArg some h
theorem row_at {w : World} {base n : Nat} {v : Value} {O : List UInt8} (h : w.ownsRow base 5 1 v n (byteVals O)) (hn : O.length = n) (k : Nat) (hk : k < n) : ∃ g c, v = .slice (some ⟨g, 0, none⟩) n c ∧ base ≤ g ∧ g < w.heap.size ∧ w.cell? ⟨g, k, none⟩ = some (.int .u8 ((O.getD k 0).toNat : Int)) := by
  have h0 := h
  rcases h.2 with ⟨rfl, h0⟩ | ⟨g, cap, cur, rfl, h1, hg, h2, h3, h4, h5⟩
  · omega
  · refine ⟨g, cap, rfl, h1, (h0.lt g rfl).2, ?_⟩
    rw [World.ownsRow.cellAt (w := w) (base := base) h0 k (by omega)]
    unfold byteVals
    rw [List.getElem?_map, List.getElem?_eq_getElem (by omega), List.getD, List.getElem?_eq_getElem (by omega)]; rfl

set_option maxHeartbeats 16000000 in
set_option maxRecDepth 100000 in
theorem law_FnBits (v0 : Value) (l0 : List Value) (k0 : ∀ x ∈ l0, ∃ y : Int, x = .int .u8 y ∧ 0 ≤ y ∧ y ≤ 255) (v1 : Value) (l1 : List Value) (k1 : ∀ x ∈ l1, ∃ y : Int, x = .int .u8 y ∧ 0 ≤ y ∧ y ≤ 255) (w : World) (r0 : RdV (· < w.heap.size) w v0 l0) (r1 : RdV (· < w.heap.size) w v1 l1) :
    Calls Try.prog 3 #[v0, v1] w fun e w' => e = .returned (.bool true) ∧ Below w.heap.size w w' := by
  obtain ⟨i0, hi, hz0, hz1, hz2⟩ := info_parts Try.infoByte
  have HR0 := Lib.hid r0
  have HR1 := Lib.hid r1
  have HK0 := Lib.hid k0
  have HK1 := Lib.hid k1
  obtain ⟨A0, n0, c0, rfl, hn0, -⟩ := r0
  obtain ⟨A1, n1, c1, rfl, hn1, -⟩ := r1
  clear k0 k1 hn0 hn1
  have HL := Lib.hid (fun W => b10Long_any W A0 A1 n0 c0 n1 c1)
  by_cases hz : 1048576 < n0 ∨ 1048576 < n1
  · have hz' : (decide (1048576 < n0) || decide (1048576 < n1)) = true := by rcases hz with h | h <;> simp [h]
    rw [hz'] at HL
    clear hz hz'
    go_enter Try.func3, Try.ntmps3
    go_wp2_with fail
    refine (HL.out _).mono ?_; rintro e w1 ⟨rfl, q, rfl⟩
    go_wp2_with fail
    go_ret
    exact ⟨rfl, below_drewN (Below.refl _ _) q⟩
  · have hz' : (decide (1048576 < n0) || decide (1048576 < n1)) = false := by simp; omega
    rw [hz'] at HL
    clear hz hz'
    have HAT1 : Hid (∀ (k t : Nat), 2 ≤ t ∧ t ≤ 1000000 → k ≤ 1000000 → ∃ a : Int, (0 ≤ a ∧ a < t) ∧ ∀ W, Below w.heap.size w W → Calls Try.prog 14 #[.slice A1 n1 c1, .int .i64 (k : Int), .int .i64 (t : Int)] W fun e w' => e = .returned (.int .i64 a) ∧ W = w') := by
      show ∀ k t, _
      intro k t ht hk
      have h0 : 0 ≤ b10N l1 k t ∧ b10N l1 k t < t := by
        unfold b10N
        split <;> (constructor <;> first | omega | exact Int.emod_nonneg _ (by omega) | exact Int.emod_lt_of_pos _ (by omega))
      refine ⟨b10N l1 k t, h0, fun W hb => ?_⟩
      exact (b10At_any W _ l1 k t ht hk (HR1.out.keep hb) HK1.out).mono fun e w' ⟨he, _, hw⟩ => ⟨he, hw⟩
    go_enter Try.func3, Try.ntmps3
    go_wp2_with fail
    refine (HL.out _).mono ?_; rintro e w1 ⟨rfl, q, rfl⟩
    have B1 : Hid (Below w.heap.size w (w.drewN q)) := below_drewN (Below.refl _ _) q
    go_wp2_with fail
    refine (b10Bits_any _ _ _ (rdv_keepB HR0.out B1.out) HK0.out).mono ?_; rintro e w2 ⟨L, rfl, ⟨hL40, hLin⟩, hb2⟩
    have B2 := Lib.hid (B1.out.trans (hb2.mono B1.out.size))
    clear hb2 B1 HL
    obtain ⟨G, hG⟩ : ∃ G : ByteArray, G = ⟨L.toArray⟩ := ⟨_, rfl⟩
    have hl := ba_len hG
    have hd : G.data.toList = L := by rw [hG]
    have hG40 : G.size ≤ 40 := by omega
    obtain ⟨v, ma, pa, R, Xa, HA⟩ := bits_row hl hl hG40 hLin hLin
    obtain ⟨GR, hGR⟩ : ∃ GR : ByteArray, GR = ⟨R.toArray⟩ := ⟨_, rfl⟩
    have hdR : GR.data.toList = R := by rw [hGR]
    have hrs : GR.size = G.size := by rw [← ba_len hGR]; exact HA.rl
    have C1 := Lib.hid (fun W => nob_yes_impl G W (by unfold maxLen; omega) (by rw [hd]; exact HA.nob1))
    rw [hd, HA.val1] at C1
    have C2 := Lib.hid (fun W => bitsOf_yes_impl v G.size W (by omega) HA.v0 HA.vn)
    rw [HA.back, ← hG] at C2
    have C3 := Lib.hid (fun W => runLengths_impl G W (by unfold maxLen; omega))
    rw [hd, HA.isb, HA.runs] at C3
    have C4 := Lib.hid (fun W => ones_impl G W (by unfold maxLen; omega))
    rw [hd, HA.isb, HA.ones] at C4
    have C5 := Lib.hid (fun W => rev_impl G W (by unfold maxLen; omega))
    rw [hd, HA.isb, show revA G = GR from by rw [hG, HA.rev, hGR]] at C5
    have C6 := Lib.hid (fun W => rev_impl GR W (by unfold maxLen; omega))
    rw [hdR, HA.isbR, show revA GR = G from by rw [hGR, HA.rev2, hG]] at C6
    have HHA := Lib.hid HA
    have HHG := Lib.hid hG
    have HHR := Lib.hid hGR
    have HLL := Lib.hid hl
    have HRS := Lib.hid hrs
    have HLN := Lib.hid hLin
    have HDD := Lib.hid hd
    clear hd hdR hrs HA hGR hl hLin hL40
    rw [← hG]
    clear hG
    obtain ⟨v, hv⟩ : ∃ x, x = v := ⟨_, rfl⟩
    rw [← hv] at C1 C2 HHA
    clear hv

    go_wp2_with fail
    refine (C1.out _).mono ?_; rintro e w3 ⟨rfl, hb3⟩
    have B3 := Lib.hid (B2.out.trans (hb3.mono B2.out.size))
    clear hb3 B2
    go_wp2_with fail
    refine (C2.out _).mono ?_; rintro e w4 ⟨rfl, hb4⟩
    have B4 := Lib.hid (B3.out.trans (hb4.mono B3.out.size))
    clear hb4 B3
    go_wp2_with fail
    refine (C3.out _).mono ?_; rintro e w5 ⟨u, rfl, ho5, hb5⟩
    have B5 := Lib.hid (B4.out.trans (hb5.mono B4.out.size))
    have O5 := Lib.hid ho5
    obtain ⟨Au, cu, rfl⟩ := own_shape ho5
    clear ho5
    clear hb5 B4
    go_wp2_with fail
    refine (C4.out _).mono ?_; rintro e w6 ⟨rfl, hb6⟩
    have B6 := Lib.hid (B5.out.trans (hb6.mono B5.out.size))
    have O6 := Lib.hid (own_below O5.out hb6)
    clear O5
    clear hb6 B5
    go_wp2_with fail
    refine (C5.out _).mono ?_; rintro e w7 ⟨rfl, hb7⟩
    have B7 := Lib.hid (B6.out.trans (hb7.mono B6.out.size))
    have O7 := Lib.hid (own_below O6.out hb7)
    clear O6
    clear hb7 B6
    go_wp2_with fail
    refine (C6.out _).mono ?_; rintro e w8 ⟨rfl, hb8⟩
    have B8 := Lib.hid (B7.out.trans (hb8.mono B7.out.size))
    have O8 := Lib.hid (own_below O7.out hb8)
    clear O7
    clear hb8 B7
    obtain ⟨RN, hRN⟩ : ∃ RN, RN = (runsK L G.size).length := ⟨_, rfl⟩
    have HRD : Hid (∀ W, Below w8.heap.size w8 W → Rd W (.slice Au RN cu) (runsK L G.size)) := by
      show ∀ W, _
      intro W hW
      rw [hRN]; exact (show Own w8 w4.heap.size _ _ from O8.out).rd.keep hW
    rw [← hRN]
    have HRN := Lib.hid hRN
    clear hRN C1 C2 C3 C4 C5 C6 O8
    obtain ⟨w9, hw9⟩ : ∃ w9, w9 = w8.alloc (.cells #[] 5) := ⟨_, rfl⟩
    have HW9 := Lib.hid hw9
    have B9 : Hid (Below w8.heap.size w8 w9) := by show Below _ _ _; rw [hw9]; exact (Below.refl _ _).alloc (Nat.le_refl _) _
    have P9 : Hid (w9.ownsRow w8.heap.size 5 1 (.slice (some ⟨w8.heap.size, 0, none⟩) 0 0) 0 (byteVals [])) := by
      show World.ownsRow _ _ _ _ _ _ _
      rw [hw9]; exact World.ownsRow_made w8 #[] 0 (Nat.le_refl _) (by decide) rfl
    clear hw9
    go_wp2_with fail
    rw [← HW9.out]
    generalize hS8 : w8.heap.size = S8 at *
    have HS8 := Lib.hid hS8
    clear hS8
    go_loopw [18, 19] (fun t i wr => ∃ (k : Nat) (M : List UInt8), k ≤ G.size ∧ i = .int .i64 k ∧ (M.length = k ∧ inR 48 49 M = true) ∧ wr.ownsRow S8 5 1 t M.length (byteVals M) ∧ Below S8 w8 wr) (fun _ i _ => G.size - (intOf i).toNat)
    case atStart => exact ⟨0, [], Nat.zero_le _, rfl, ⟨rfl, rfl⟩, P9.out, B9.out⟩
    case round =>
      obtain ⟨k, M, hk, rfl, hm, hown, hb⟩ := hrel
      have HO := Lib.hid hown
      have HB := Lib.hid hb
      have HM := Lib.hid hm
      clear hown hb hm P9 B9 HW9
      by_cases hlt : k < G.size
      · obtain ⟨a, ⟨a0, a1⟩, ha⟩ := HAT1.out k 2 (by decide) (by omega)
        have HA : Hid (∀ W, Below w.heap.size w W → Calls Try.prog 14 #[.slice A1 n1 c1, .int .i64 (k : Int), .int .i64 2] W fun e w' => e = .returned (.int .i64 a) ∧ W = w') := ha
        obtain ⟨d, hd⟩ := byte_num (48 + a) (by omega) (by omega)
        have PD : Hid ((48 ≤ (d.toNat : Int) ∧ (d.toNat : Int) ≤ 49) ∧ (Value.int .u8 (d.toNat : Int)) = .int .u8 (48 + a)) := ⟨by omega, by rw [hd]⟩
        have wk : IntKind.i64.wrap ((k : Int) + 1) = (k : Int) + 1 := IntWalk.i64_in _ (by omega)
        have wx : IntKind.i64.wrap (48 + a) = 48 + a := IntWalk.i64_in _ (by omega)
        have wu : IntKind.u8.wrap (48 + a) = 48 + a := IntWalk.u8_in _ (by omega)
        have BW : Hid (Below w.heap.size w wr) := B8.out.trans (HB.out.mono (by have := HS8.out; have := B8.out.size; omega))
        obtain ⟨Av, cv, hAv⟩ := own_shape HO.out
        subst hAv
        have hrow := HO.out
        have hmk : M.length ≤ 40 := by have := HM.out.1; omega
        have hsw : S8 ≤ wr.heap.size := by have := HB.out.size; have := HS8.out; omega
        clear ha hd a0 a1
        go_wp2_with fail
        refine (HA.out _ BW.out).mono ?_; rintro e w' ⟨rfl, rfl⟩
        go_wp2_with (at_builtin; refine wpList_append_own _ rfl _ _ 22 rfl S8 5 i0 (.int .u8 0) 1 1 Try.underlying22 hi hz0 hz1 hz2 rfl (by decide) _ _ _ rfl (World.ownsRow.alloc hrow _) ⟨wr.heap.size, 0, none⟩ 1 1 [.int .u8 (48 + a)] rfl rfl ?_ ?_ ?_ ?_ ?_ ?_)
        all_goals first | exact c1_one _ _ _ | rfl | (intro u hu; simp at hu; subst hu; rfl) | (unfold maxLen; first | omega | (simp; omega)) | (first | omega | (simp; omega)) | skip
        intro v1 wz hown1 hgrow1 _
        have BZ : Hid (Below S8 w8 wz) := below_row HB.out hsw (Nat.le_refl _) hrow hgrow1
        have OZ : Hid (wz.ownsRow S8 5 1 v1 (M ++ [d]).length (byteVals (M ++ [d]))) := by
          show World.ownsRow _ _ _ _ _ _ _
          rw [← byteVals_snoc, List.length_append, PD.out.2]; exact hown1
        clear hrow hgrow1 hown1 HO HB
        go_wp2_with fail
        go_roundw
        case rel => exact ⟨k + 1, M ++ [d], by have := HM.out.1; omega, by go_num, ⟨by rw [List.length_append, HM.out.1]; rfl, inR_one HM.out.2 PD.out.1⟩, OZ.out, BZ.out⟩
        case measure => have := HM.out.1; first | (simp [intOf]; done) | (simp [intOf]; omega)
      · obtain rfl : k = G.size := by omega
        have hml := HM.out.1
        have hmi := HM.out.2
        obtain ⟨v', m, p, R', X, HQ⟩ := bits_row HLL.out hml hG40 HLN.out hmi
        obtain rfl : v' = v := by rw [← HQ.val1, ← HHA.out.val1]
        obtain ⟨GO, hGO⟩ : ∃ GO : ByteArray, GO = ⟨M.toArray⟩ := ⟨_, rfl⟩
        obtain ⟨GX, hGX⟩ : ∃ GX : ByteArray, GX = ⟨X.toArray⟩ := ⟨_, rfl⟩
        have hdO : GO.data.toList = M := by rw [hGO]
        have hoz : GO.size = G.size := by rw [← ba_len hGO]; exact hml
        have hxz : GX.size = G.size := by rw [← ba_len hGX]; exact HQ.xl
        have C7 := Lib.hid (fun W => xor_yes_impl G GO W (by rw [HDD.out]; exact HQ.isb) (by rw [hdO]; exact HQ.isbO) hoz.symm)
        rw [hdO, HDD.out, HQ.xor, ← hGX] at C7
        have C8 := Lib.hid (fun W => nob_yes_impl GO W (by unfold maxLen; omega) (by rw [hdO]; exact HQ.nob2))
        rw [hdO, HQ.val2] at C8
        have C9 := Lib.hid (fun W => par_impl v' m W (by exact HQ.v6))
        rw [HQ.par, HQ.parv] at C9
        have HSM : Hid (∀ W, Below S8 w8 W → Calls Try.prog 17 #[.slice Au RN cu] W fun e w' => e = .returned (.int .i64 (G.size : Int)) ∧ W = w') := by
          show ∀ W, _
          intro W hW
          have := b10Sum_all W _ _ (HRD.out W hW) (fun k => by have := HQ.rpart k; omega)
          rw [HQ.rsum] at this
          exact this
        have HXA := Lib.hid HQ.xat
        have HRA := Lib.hid HHA.out.rat
        have HBO := Lib.hid HQ.both
        have HRL : Hid (RN = chN L G.size) := by show _ = _; rw [HRN.out]; exact HQ.rlen
        have HGO := Lib.hid hGO
        have HGX := Lib.hid hGX
        have HOZ := Lib.hid hoz
        have HXZ := Lib.hid hxz
        obtain ⟨Av, cv, hAv⟩ := own_shape HO.out
        subst hAv
        have HRW := Lib.hid (fun (W : World) (hW : Below wr.heap.size wr W) => own_below HO.out hW)
        have hcv1 := conv_own HO.out
        rw [← hGO] at hcv1
        have ER : GR.size = G.size := HRS.out
        have e5 : ((GX.size : Int) != (G.size : Int)) = false := by rw [hxz]; simp
        have e6 : ((GR.size : Int) != (G.size : Int)) = false := by rw [ER]; simp
        have e7 : ((G.size : Int) != (G.size : Int)) = false := by simp
        have HSS : Hid (S8 ≤ w8.heap.size) := by show _ ≤ _; rw [HS8.out]; exact Nat.le_refl _
        have BR : Hid (Below w.heap.size w wr) := B8.out.trans (HB.out.mono (by have := HS8.out; have := B8.out.size; omega))
        have hsw : S8 ≤ wr.heap.size := by have := HB.out.size; have := HS8.out; omega
        have HSW := Lib.hid hsw
        clear HQ hdO hoz hxz hGO hGX hlt HHA HAT1 hml hmi HRN hsw ER
        go_wp2_with fail
        refine (C7.out _).mono ?_; rintro e wa ⟨rfl, hba⟩
        have hcv2 := conv_own (HRW.out _ hba)
        rw [← HGO.out] at hcv2
        have BA := Lib.hid hba
        clear hba hcv1
        go_wp2_with fail
        refine (C8.out _).mono ?_; rintro e wb ⟨rfl, hbb⟩
        have BB := Lib.hid (BA.out.trans (hbb.mono BA.out.size))
        clear hbb BA hcv2
        go_wp2_with fail
        refine (C9.out _).mono ?_; rintro e wc ⟨rfl, hbc⟩
        have BC := Lib.hid (BB.out.trans (hbc.mono BB.out.size))
        have BCS : Hid (Below S8 w8 wc) := HB.out.trans (BC.out.mono HSW.out)
        clear hbc BB
        go_wp2_with fail
        refine (HSM.out _ BCS.out).mono ?_; rintro e w' ⟨rfl, rfl⟩
        go_wp2_with fail
        have HL1 := HLL.out
        have HML := HM.out.1
        clear C7 C8 C9 HSM e5 e6 e7
        go_loopw [26, 27, 28, 29] (fun c b ch i wq => ∃ k : Nat, k ≤ G.size ∧ i = .int .i64 k ∧ c = .int .i64 (onesL (L.take k)) ∧ b = .int .i64 ((boN L M k : Nat) : Int) ∧ ch = .int .i64 ((chN L k : Nat) : Int) ∧ Below wr.heap.size wr wq) (fun _ _ _ i _ => G.size - (intOf i).toNat)
        case atStart => exact ⟨0, Nat.zero_le _, rfl, rfl, rfl, rfl, BC.out⟩
        case round =>
          obtain ⟨k, hk, rfl, rfl, rfl, rfl, hb⟩ := hrel
          have BD := Lib.hid hb
          clear hb BC BCS
          have c0 := onesL_bd (L.take k)
          have c1 : (L.take k).length ≤ k := List.length_take_le _ _
          have c2 := boN_le L M k
          have c3 := chN_le L k
          by_cases hlt : k < G.size
          · have hgk := ba_at HHG.out k hlt
            have hxz : k < GX.size := by have := HXZ.out; omega
            have hxk := ba_at HGX.out k hxz
            rw [HXA.out k hlt] at hxk
            obtain ⟨J, hJ⟩ : ∃ J, J = G.size - 1 - k := ⟨_, rfl⟩
            obtain ⟨N1, hN1⟩ : ∃ N1, N1 = G.size - 1 := ⟨_, rfl⟩
            have hrz : J < GR.size := by have := HRS.out; omega
            have hrk := ba_at HHR.out J hrz
            have hrv : R.getD J 0 = L.getD k 0 := by rw [hJ]; exact HRA.out k hlt
            rw [hrv] at hrk
            clear hrv
            obtain ⟨g, cg, hv2, -, hglt, hcell⟩ := row_at HO.out rfl k (by omega)
            have hcell := (BD.out.cell (p := ⟨g, k, none⟩) hglt).trans hcell
            have hon := ones_next HLN.out k (by omega)
            have hbo : boN L M (k + 1) = boN L M k + if L.getD k 0 = 49 ∧ M.getD k 0 = 49 then 1 else 0 := rfl
            have HLK : k < L.length := by omega
            have HNEW := Lib.hid (fun h => chN_new (L := L) (k := k) h HLK)
            have HOLD := Lib.hid (fun h0 h => chN_old (L := L) (k := k) h0 h HLK)
            have hv3 : Av = some ⟨g, 0, none⟩ := by injection hv2
            subst hv3
            clear hv2
            have i0 : (0 : Int) ≤ (k : Int) := by omega
            have i1 : (k : Int) < (G.size : Int) := by omega
            have i2 : (k : Int) < (GX.size : Int) := by have := HXZ.out; omega
            have i3 : (J : Int) < (GR.size : Int) := by have := HRS.out; omega
            have i4 : (k : Int) < (M.length : Int) := by omega
            have i5 : (0 : Int) ≤ (J : Int) := by omega
            have wk : IntKind.i64.wrap ((k : Int) + 1) = (k : Int) + 1 := IntWalk.i64_in _ (by omega)
            have wn : IntKind.i64.wrap ((G.size : Int) - 1) = (N1 : Int) := by rw [IntWalk.i64_in _ (by omega)]; omega
            have wj : IntKind.i64.wrap ((N1 : Int) - (k : Int)) = (J : Int) := by rw [IntWalk.i64_in _ (by omega)]; omega
            have ya := inR_getDB HLN.out k (by omega)
            have yb := inR_getDB HM.out.2 k (by omega)
            have yp : k = 0 ∨ (0 < k ∧ ∃ P, P = k - 1 ∧ P < G.size ∧ (L.getD P 0 = 48 ∨ L.getD P 0 = 49)) := by
              rcases Nat.eq_zero_or_pos k with h | h
              · exact .inl h
              · exact .inr ⟨h, k - 1, rfl, by omega, inR_getDB HLN.out (k - 1) (by omega)⟩
            have HYP := Lib.hid yp
            have HHK : k ≤ 40 := by omega
            obtain ⟨c, hc⟩ : ∃ c : Int, c = onesL (L.take k) := ⟨_, rfl⟩
            obtain ⟨b, hbn⟩ : ∃ b : Nat, b = boN L M k := ⟨_, rfl⟩
            obtain ⟨ch, hch⟩ : ∃ ch : Nat, ch = chN L k := ⟨_, rfl⟩
            have HKG := Lib.hid hlt
            have HJ := Lib.hid hJ
            rw [← hc] at c0 hon ⊢
            rw [← hbn] at c2 hbo ⊢
            rw [← hch] at c3 HNEW HOLD ⊢
            have b1 : 0 ≤ c ∧ c ≤ 40 := by omega
            have b2 : b ≤ 40 := by omega
            have b3 : ch ≤ 40 := by omega
            have wc : IntKind.i64.wrap (c + 1) = c + 1 := IntWalk.i64_in _ (by omega)
            have wb : IntKind.i64.wrap ((b : Int) + 1) = (b : Int) + 1 := IntWalk.i64_in _ (by omega)
            have wch : IntKind.i64.wrap ((ch : Int) + 1) = (ch : Int) + 1 := IntWalk.i64_in _ (by omega)
            clear hc hbn hch c0 c1 c2 c3 hJ hN1 yp HOZ HL1 HML hk
            rcases ya with ya | ya <;> rcases yb with yb | yb
            · have g1 : ((G[k]'hlt).toNat : Int) = 48 := by rw [hgk, ya]; rfl
              have g2 : ((GX[k]'hxz).toNat : Int) = 48 := by rw [hxk, ya, yb]; rfl
              have g3 : ((GR[J]'hrz).toNat : Int) = 48 := by rw [hrk, ya]; rfl
              have g4 : wr.cell? ⟨g, k, none⟩ = some (.int .u8 48) := by rw [hcell, yb]; rfl
              have HON : Hid (onesL (L.take (k + 1)) = c) := by
                show _ = _
                rw [hon, ya]; show c + 0 = c; omega
              have HBN : Hid (boN L M (k + 1) = b) := by
                show _ = _
                rw [hbo, ya, yb]; rfl
              clear hgk hxk hrk hcell hon hbo yb
              rcases HYP.out with e0 | ⟨e0, P, hP, hPG, yp⟩
              · have HCH : Hid (chN L (k + 1) = ch + 1) := HNEW.out (.inl e0)
                have z0 : ((k : Int) == 0) = true := by rw [e0]; rfl
                clear HNEW HOLD ya e0
                go_wp2_with fail
                go_quiet (fail)
                go_wp2_with fail
                go_quiet (fail)
                go_wp2_with fail
                go_roundw
                case rel => exact ⟨k + 1, by have := HKG.out; omega, by go_num, by rw [HON.out], by rw [HBN.out] <;> (first | rfl | go_num), by rw [HCH.out] <;> (first | rfl | go_num), by first | exact below_drewN BD.out _ | exact below_drewN (below_drewN BD.out _) _⟩
                case measure => have := HKG.out; simp [intOf]; omega
              · have hgp := ba_at HHG.out P hPG
                have z0 : ((k : Int) == 0) = false := by simp; omega
                have wp : IntKind.i64.wrap ((k : Int) - 1) = (P : Int) := by rw [IntWalk.i64_in _ (by omega)]; omega
                have p0 : (0 : Int) ≤ (P : Int) := by omega
                have p1 : (P : Int) < (G.size : Int) := by omega
                rcases yp with yp | yp
                · have g5 : ((G[P]'hPG).toNat : Int) = 48 := by rw [hgp, yp]; rfl
                  have HCH : Hid (chN L (k + 1) = ch) := HOLD.out e0 (by rw [← hP, ya, yp])
                  clear HNEW HOLD ya yp hgp hP
                  go_wp2_with fail
                  go_quiet (fail)
                  go_wp2_with fail
                  go_quiet (fail)
                  go_wp2_with fail
                  go_roundw
                  case rel => exact ⟨k + 1, by have := HKG.out; omega, by go_num, by rw [HON.out], by rw [HBN.out] <;> (first | rfl | go_num), by rw [HCH.out] <;> (first | rfl | go_num), by first | exact below_drewN BD.out _ | exact below_drewN (below_drewN BD.out _) _⟩
                  case measure => have := HKG.out; simp [intOf]; omega
                · have g5 : ((G[P]'hPG).toNat : Int) = 49 := by rw [hgp, yp]; rfl
                  have HCH : Hid (chN L (k + 1) = ch + 1) := HNEW.out (.inr (by rw [← hP, ya, yp]; decide))
                  clear HNEW HOLD ya yp hgp hP
                  go_wp2_with fail
                  go_quiet (fail)
                  go_wp2_with fail
                  go_quiet (fail)
                  go_wp2_with fail
                  go_roundw
                  case rel => exact ⟨k + 1, by have := HKG.out; omega, by go_num, by rw [HON.out], by rw [HBN.out] <;> (first | rfl | go_num), by rw [HCH.out] <;> (first | rfl | go_num), by first | exact below_drewN BD.out _ | exact below_drewN (below_drewN BD.out _) _⟩
                  case measure => have := HKG.out; simp [intOf]; omega
            · have g1 : ((G[k]'hlt).toNat : Int) = 48 := by rw [hgk, ya]; rfl
              have g2 : ((GX[k]'hxz).toNat : Int) = 49 := by rw [hxk, ya, yb]; rfl
              have g3 : ((GR[J]'hrz).toNat : Int) = 48 := by rw [hrk, ya]; rfl
              have g4 : wr.cell? ⟨g, k, none⟩ = some (.int .u8 49) := by rw [hcell, yb]; rfl
              have HON : Hid (onesL (L.take (k + 1)) = c) := by
                show _ = _
                rw [hon, ya]; show c + 0 = c; omega
              have HBN : Hid (boN L M (k + 1) = b) := by
                show _ = _
                rw [hbo, ya, yb]; rfl
              clear hgk hxk hrk hcell hon hbo yb
              rcases HYP.out with e0 | ⟨e0, P, hP, hPG, yp⟩
              · have HCH : Hid (chN L (k + 1) = ch + 1) := HNEW.out (.inl e0)
                have z0 : ((k : Int) == 0) = true := by rw [e0]; rfl
                clear HNEW HOLD ya e0
                go_wp2_with fail
                go_quiet (fail)
                go_wp2_with fail
                go_quiet (fail)
                go_wp2_with fail
                go_roundw
                case rel => exact ⟨k + 1, by have := HKG.out; omega, by go_num, by rw [HON.out], by rw [HBN.out] <;> (first | rfl | go_num), by rw [HCH.out] <;> (first | rfl | go_num), by first | exact below_drewN BD.out _ | exact below_drewN (below_drewN BD.out _) _⟩
                case measure => have := HKG.out; simp [intOf]; omega
              · have hgp := ba_at HHG.out P hPG
                have z0 : ((k : Int) == 0) = false := by simp; omega
                have wp : IntKind.i64.wrap ((k : Int) - 1) = (P : Int) := by rw [IntWalk.i64_in _ (by omega)]; omega
                have p0 : (0 : Int) ≤ (P : Int) := by omega
                have p1 : (P : Int) < (G.size : Int) := by omega
                rcases yp with yp | yp
                · have g5 : ((G[P]'hPG).toNat : Int) = 48 := by rw [hgp, yp]; rfl
                  have HCH : Hid (chN L (k + 1) = ch) := HOLD.out e0 (by rw [← hP, ya, yp])
                  clear HNEW HOLD ya yp hgp hP
                  go_wp2_with fail
                  go_quiet (fail)
                  go_wp2_with fail
                  go_quiet (fail)
                  go_wp2_with fail
                  go_roundw
                  case rel => exact ⟨k + 1, by have := HKG.out; omega, by go_num, by rw [HON.out], by rw [HBN.out] <;> (first | rfl | go_num), by rw [HCH.out] <;> (first | rfl | go_num), by first | exact below_drewN BD.out _ | exact below_drewN (below_drewN BD.out _) _⟩
                  case measure => have := HKG.out; simp [intOf]; omega
                · have g5 : ((G[P]'hPG).toNat : Int) = 49 := by rw [hgp, yp]; rfl
                  have HCH : Hid (chN L (k + 1) = ch + 1) := HNEW.out (.inr (by rw [← hP, ya, yp]; decide))
                  clear HNEW HOLD ya yp hgp hP
                  go_wp2_with fail
                  go_quiet (fail)
                  go_wp2_with fail
                  go_quiet (fail)
                  go_wp2_with fail
                  go_roundw
                  case rel => exact ⟨k + 1, by have := HKG.out; omega, by go_num, by rw [HON.out], by rw [HBN.out] <;> (first | rfl | go_num), by rw [HCH.out] <;> (first | rfl | go_num), by first | exact below_drewN BD.out _ | exact below_drewN (below_drewN BD.out _) _⟩
                  case measure => have := HKG.out; simp [intOf]; omega
            · have g1 : ((G[k]'hlt).toNat : Int) = 49 := by rw [hgk, ya]; rfl
              have g2 : ((GX[k]'hxz).toNat : Int) = 49 := by rw [hxk, ya, yb]; rfl
              have g3 : ((GR[J]'hrz).toNat : Int) = 49 := by rw [hrk, ya]; rfl
              have g4 : wr.cell? ⟨g, k, none⟩ = some (.int .u8 48) := by rw [hcell, yb]; rfl
              have HON : Hid (onesL (L.take (k + 1)) = c + 1) := by
                show _ = _
                rw [hon, ya]; rfl
              have HBN : Hid (boN L M (k + 1) = b) := by
                show _ = _
                rw [hbo, ya, yb]; rfl
              clear hgk hxk hrk hcell hon hbo yb
              rcases HYP.out with e0 | ⟨e0, P, hP, hPG, yp⟩
              · have HCH : Hid (chN L (k + 1) = ch + 1) := HNEW.out (.inl e0)
                have z0 : ((k : Int) == 0) = true := by rw [e0]; rfl
                clear HNEW HOLD ya e0
                go_wp2_with fail
                go_quiet (fail)
                go_wp2_with fail
                go_quiet (fail)
                go_wp2_with fail
                go_roundw
                case rel => exact ⟨k + 1, by have := HKG.out; omega, by go_num, by rw [HON.out], by rw [HBN.out] <;> (first | rfl | go_num), by rw [HCH.out] <;> (first | rfl | go_num), by first | exact below_drewN BD.out _ | exact below_drewN (below_drewN BD.out _) _⟩
                case measure => have := HKG.out; simp [intOf]; omega
              · have hgp := ba_at HHG.out P hPG
                have z0 : ((k : Int) == 0) = false := by simp; omega
                have wp : IntKind.i64.wrap ((k : Int) - 1) = (P : Int) := by rw [IntWalk.i64_in _ (by omega)]; omega
                have p0 : (0 : Int) ≤ (P : Int) := by omega
                have p1 : (P : Int) < (G.size : Int) := by omega
                rcases yp with yp | yp
                · have g5 : ((G[P]'hPG).toNat : Int) = 48 := by rw [hgp, yp]; rfl
                  have HCH : Hid (chN L (k + 1) = ch + 1) := HNEW.out (.inr (by rw [← hP, ya, yp]; decide))
                  clear HNEW HOLD ya yp hgp hP
                  go_wp2_with fail
                  go_quiet (fail)
                  go_wp2_with fail
                  go_quiet (fail)
                  go_wp2_with fail
                  go_roundw
                  case rel => exact ⟨k + 1, by have := HKG.out; omega, by go_num, by rw [HON.out], by rw [HBN.out] <;> (first | rfl | go_num), by rw [HCH.out] <;> (first | rfl | go_num), by first | exact below_drewN BD.out _ | exact below_drewN (below_drewN BD.out _) _⟩
                  case measure => have := HKG.out; simp [intOf]; omega
                · have g5 : ((G[P]'hPG).toNat : Int) = 49 := by rw [hgp, yp]; rfl
                  have HCH : Hid (chN L (k + 1) = ch) := HOLD.out e0 (by rw [← hP, ya, yp])
                  clear HNEW HOLD ya yp hgp hP
                  go_wp2_with fail
                  go_quiet (fail)
                  go_wp2_with fail
                  go_quiet (fail)
                  go_wp2_with fail
                  go_roundw
                  case rel => exact ⟨k + 1, by have := HKG.out; omega, by go_num, by rw [HON.out], by rw [HBN.out] <;> (first | rfl | go_num), by rw [HCH.out] <;> (first | rfl | go_num), by first | exact below_drewN BD.out _ | exact below_drewN (below_drewN BD.out _) _⟩
                  case measure => have := HKG.out; simp [intOf]; omega
            · have g1 : ((G[k]'hlt).toNat : Int) = 49 := by rw [hgk, ya]; rfl
              have g2 : ((GX[k]'hxz).toNat : Int) = 48 := by rw [hxk, ya, yb]; rfl
              have g3 : ((GR[J]'hrz).toNat : Int) = 49 := by rw [hrk, ya]; rfl
              have g4 : wr.cell? ⟨g, k, none⟩ = some (.int .u8 49) := by rw [hcell, yb]; rfl
              have HON : Hid (onesL (L.take (k + 1)) = c + 1) := by
                show _ = _
                rw [hon, ya]; rfl
              have HBN : Hid (boN L M (k + 1) = b + 1) := by
                show _ = _
                rw [hbo, ya, yb]; rfl
              clear hgk hxk hrk hcell hon hbo yb
              rcases HYP.out with e0 | ⟨e0, P, hP, hPG, yp⟩
              · have HCH : Hid (chN L (k + 1) = ch + 1) := HNEW.out (.inl e0)
                have z0 : ((k : Int) == 0) = true := by rw [e0]; rfl
                clear HNEW HOLD ya e0
                go_wp2_with fail
                go_quiet (fail)
                go_wp2_with fail
                go_quiet (fail)
                go_wp2_with fail
                go_roundw
                case rel => exact ⟨k + 1, by have := HKG.out; omega, by go_num, by rw [HON.out], by rw [HBN.out] <;> (first | rfl | go_num), by rw [HCH.out] <;> (first | rfl | go_num), by first | exact below_drewN BD.out _ | exact below_drewN (below_drewN BD.out _) _⟩
                case measure => have := HKG.out; simp [intOf]; omega
              · have hgp := ba_at HHG.out P hPG
                have z0 : ((k : Int) == 0) = false := by simp; omega
                have wp : IntKind.i64.wrap ((k : Int) - 1) = (P : Int) := by rw [IntWalk.i64_in _ (by omega)]; omega
                have p0 : (0 : Int) ≤ (P : Int) := by omega
                have p1 : (P : Int) < (G.size : Int) := by omega
                rcases yp with yp | yp
                · have g5 : ((G[P]'hPG).toNat : Int) = 48 := by rw [hgp, yp]; rfl
                  have HCH : Hid (chN L (k + 1) = ch + 1) := HNEW.out (.inr (by rw [← hP, ya, yp]; decide))
                  clear HNEW HOLD ya yp hgp hP
                  go_wp2_with fail
                  go_quiet (fail)
                  go_wp2_with fail
                  go_quiet (fail)
                  go_wp2_with fail
                  go_roundw
                  case rel => exact ⟨k + 1, by have := HKG.out; omega, by go_num, by rw [HON.out], by rw [HBN.out] <;> (first | rfl | go_num), by rw [HCH.out] <;> (first | rfl | go_num), by first | exact below_drewN BD.out _ | exact below_drewN (below_drewN BD.out _) _⟩
                  case measure => have := HKG.out; simp [intOf]; omega
                · have g5 : ((G[P]'hPG).toNat : Int) = 49 := by rw [hgp, yp]; rfl
                  have HCH : Hid (chN L (k + 1) = ch) := HOLD.out e0 (by rw [← hP, ya, yp])
                  clear HNEW HOLD ya yp hgp hP
                  go_wp2_with fail
                  go_quiet (fail)
                  go_wp2_with fail
                  go_quiet (fail)
                  go_wp2_with fail
                  go_roundw
                  case rel => exact ⟨k + 1, by have := HKG.out; omega, by go_num, by rw [HON.out], by rw [HBN.out] <;> (first | rfl | go_num), by rw [HCH.out] <;> (first | rfl | go_num), by first | exact below_drewN BD.out _ | exact below_drewN (below_drewN BD.out _) _⟩
                  case measure => have := HKG.out; simp [intOf]; omega
          · obtain rfl : k = G.size := by omega
            have hlt' : ¬ (G.size : Int) < (G.size : Int) := by omega
            have ht : L.take G.size = L := List.take_of_length_le (by omega)
            have HRL2 : Hid ((RN : Int) = ((chN L G.size : Nat) : Int)) := by show _ = _; rw [HRL.out]
            have HBO2 : Hid (p = ((boN L M G.size : Nat) : Int) % 2) := by show _ = _; rw [HBO.out]; omega
            have q1 : (onesL L == onesL L) = true := by simp
            rw [ht]
            obtain ⟨b, hbn⟩ : ∃ b : Nat, b = boN L M G.size := ⟨_, rfl⟩
            obtain ⟨ch, hch⟩ : ∃ ch : Nat, ch = chN L G.size := ⟨_, rfl⟩
            rw [← hbn] at HBO2 c2 ⊢
            rw [← hch] at HRL2 ⊢
            have hrn : RN = ch := by have := HRL2.out; omega
            have hp := HBO2.out
            have wb : IntKind.i64.wrap ((b : Int) % 2) = (b : Int) % 2 := IntWalk.i64_in _ (by omega)
            subst hrn
            subst hp
            clear hbn hch ht c0 c1 c3 hlt HL1 HML
            go_wp2_with fail
            go_ret
            exact ⟨by simp, BR.out.trans (BD.out.mono BR.out.size)⟩
end Go.Proofs.Ytnpigefbdadjfaa
