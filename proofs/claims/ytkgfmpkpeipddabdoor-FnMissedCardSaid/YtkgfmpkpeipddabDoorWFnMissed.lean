/- The walk of the law FnMissed. -/
import Derived.Test.YtkgfmpkpeipddabDoorMfP
import Derived.Test.YtkgfmpkpeipddabDoorErv
namespace Go.Proofs.YtkgfmpkpeipddabDoor
open Go Go.RowKit
set_option linter.unusedVariables false

theorem rdv_keepB {w w' : World} {v : Value} {l : List Value} (h : RdV (· < w.heap.size) w v l) (hb : Below w.heap.size w w') : RdV (· < w'.heap.size) w' v l := by
  obtain ⟨A, n, c, e, hn, h1, h2, h3⟩ := h.keep hb
  refine ⟨A, n, c, e, hn, h1, h2, fun h0 => ?_⟩
  obtain ⟨b, o, ea, hK, hlt, hc⟩ := h3 h0
  exact ⟨b, o, ea, hlt, hlt, hc⟩
theorem ba_app (a b : List UInt8) : (⟨a.toArray⟩ : ByteArray) ++ ⟨b.toArray⟩ = ⟨(a ++ b).toArray⟩ := by
  apply ByteArray.ext
  simp
theorem below_dn {B : Nat} {w w' : World} (h : Below B w w') (q : Nat) : Below B w (w'.drewN q) := ⟨h.os, h.tape, h.output, by simpa using h.size, fun k hk => by simpa using h.block k hk⟩
theorem conv_one (W : World) (c : UInt8) : (convert 32 9 (.slice (some ⟨W.heap.size, 0, none⟩) 1 1)).run Tryd.prog (W.alloc (.cells #[.int .u8 (c.toNat : Int)] 5)) = .ok (.string ⟨#[c]⟩) (W.alloc (.cells #[.int .u8 (c.toNat : Int)] 5)) :=
  conv_own (base := W.heap.size) (l := [c]) (by have := World.ownsRow_lit (base := W.heap.size) (e := 5) (size := 1) W #[.int .u8 (c.toNat : Int)] 1 (Nat.le_refl _) (by unfold maxLen; omega) (by simp); simpa [byteVals] using this)
theorem made_rep4 (z : Value) (hz : z.cells = #[z]) (n : Nat) : madeCells z.cells (n * 1) = (List.replicate n z).toArray := by
  rw [hz, Nat.mul_one]
  unfold madeCells
  apply Array.ext
  · simp
  · intro i h1 h2
    simp
    rw [Nat.mod_one]
    rfl
theorem make_four (W : World) : (Instr.makeSlice 38 (.int .i64 4) (.int .i64 4)).run Tryd.prog W = .ok (.slice (some ⟨W.heap.size, 0, none⟩) 4 4) (W.alloc (.cells #[.int .i64 0, .int .i64 0, .int .i64 0, .int .i64 0] 2)) := by
  obtain ⟨i0, hi, hz0, hz1, hz2⟩ := info_parts infoI8
  have h := run_make (P := Tryd.prog) W 38 2 i0 (.int .i64 0) Tryd.underlying38 hi hz0 .i64 .i64 4 4 (by omega) (Int.le_refl _) (by rw [hz2]; omega) (by omega)
  rw [hz1, made_rep4 _ rfl] at h
  exact h
theorem pwV_set (l : List Nat) (j x : Nat) : (pwV l).set j (.int .i64 (x : Int)) = pwV (l.set j x) := by unfold pwV; rw [List.map_set]
theorem pwV_at (l : List Nat) (j : Nat) (h : j < l.length) : (pwV l)[j]? = some (.int .i64 ((l.getD j 0 : Nat) : Int)) := by
  unfold pwV; rw [List.getElem?_map, List.getElem?_eq_getElem h, List.getD_eq_getElem?_getD, List.getElem?_eq_getElem h]; rfl

set_option maxHeartbeats 4000000 in
set_option maxRecDepth 100000 in
theorem law_FnMissed (v0 : Value) (l0 : List Value) (k0 : ∀ x ∈ l0, ∃ y : Int, x = .int .u8 y ∧ 0 ≤ y ∧ y ≤ 255) (v1 : Value) (l1 : List Value) (k1 : ∀ x ∈ l1, ∃ y : Int, x = .int .u8 y ∧ 0 ≤ y ∧ y ≤ 255) (w : World)
    {x0 : Addr} (e0 : Ev 0 x0 w) {x1 : Addr} (e1 : Ev 1 x1 w) (r0 : RdV (· < w.heap.size) w v0 l0) (r1 : RdV (· < w.heap.size) w v1 l1) :
    Calls Tryd.prog 10 #[v0, v1] w fun e w' => e = .returned (.bool true) ∧ Below w.heap.size w w' := by
  have HR0 := Lib.hid r0
  have HK0 := Lib.hid k0
  have HE0 := Lib.hid e0
  have HE1 := Lib.hid e1
  obtain ⟨y0, ⟨y00, y01⟩, hy0⟩ := r8At_is w v1 l1 0 9 (by omega) r1 k1
  obtain ⟨A0, n0, c0, rfl, hn0, -⟩ := r0
  obtain ⟨A1, n1, c1, rfl, hn1, -⟩ := r1
  clear k0 k1 hn0 hn1 e0 e1
  have HL := Lib.hid (fun W => r8Long_any W A0 A1 n0 c0 n1 c1)
  by_cases hz : 48 < n0 ∨ 48 < n1
  · have hz' : (decide (48 < n0) || decide (48 < n1)) = true := by rcases hz with h | h <;> simp [h]
    rw [hz'] at HL
    clear hz hz' hy0
    go_enter Tryd.func10, Tryd.ntmps10
    go_wp2_with fail
    refine (HL.out _).mono ?_; rintro e w1 ⟨rfl, q, rfl⟩
    go_wp2_with fail
    go_ret
    exact ⟨rfl, below_dn (Below.refl _ _) q⟩
  · have hz' : (decide (48 < n0) || decide (48 < n1)) = false := by simp; omega
    rw [hz'] at HL
    have HY0 : Hid (∀ W, Below w.heap.size w W → Calls Tryd.prog 27 #[.slice A1 n1 c1, .int .i64 0, .int .i64 9] W fun e w' => e = .returned (.int .i64 y0) ∧ W = w') := hy0
    obtain ⟨L, hL⟩ : ∃ L : Nat, (L : Int) = 1 + y0 := ⟨(1 + y0).toNat, by omega⟩
    have wa : IntKind.i64.wrap (1 + y0) = (L : Int) := by rw [hL]; exact IntWalk.i64_in _ (by omega)
    have hL9 : 1 ≤ L ∧ L ≤ 9 := by omega
    have hmk := make_four
    clear hz hz' hy0 hL y00 y01
    go_enter Tryd.func10, Tryd.ntmps10
    go_wp2_with fail
    refine (HL.out _).mono ?_; rintro e w1 ⟨rfl, q, rfl⟩
    have B1' : Hid (Below w.heap.size w (w.drewN q)) := below_dn (Below.refl _ _) q
    go_wp2_with fail
    refine (r8Check_any _ _ _ (rdv_keepB HR0.out B1'.out) HK0.out).mono ?_; rintro e w2 ⟨p, rfl, hp, hb2⟩
    have B2 := Lib.hid (B1'.out.trans (hb2.mono B1'.out.size))
    clear hb2 B1' HL
    obtain ⟨P, rfl⟩ := Int.eq_ofNat_of_zero_le (show 0 ≤ p by omega)
    go_wp2_with fail
    refine (HY0.out _ B2.out).mono ?_; rintro e w' ⟨rfl, rfl⟩
    go_wp2_with fail
    have K3 := Lib.hid (Bk.new w2 [.int .i64 0, .int .i64 0, .int .i64 0, .int .i64 0] 2 _ rfl)
    have B3 := Lib.hid (B2.out.alloc B2.out.size (.cells #[.int .i64 0, .int .i64 0, .int .i64 0, .int .i64 0] 2))
    have hlow := B2.out.size
    generalize w2.alloc (.cells #[.int .i64 0, .int .i64 0, .int .i64 0, .int .i64 0] 2) = w3 at *
    generalize w2.heap.size = cb at *
    have hck : ckB (P : Int) = true := decide_eq_true (by omega)
    have HHC := Lib.hid (fun (x : Nat) (hx : x < 2 ^ L) W (h : Below w.heap.size w W) => hasCheck_impl (P : Int) ⟨(digs (x : Int) L L).toArray⟩ W (by show (digs (x : Int) L L).toArray.size ≤ _; rw [List.size_toArray, digs_length]; unfold maxLen; omega) x0 (HE0.out.keep h))
    have HHE := Lib.hid (fun (x : Nat) (hx : x < 2 ^ L) => hc_digs P x L hL9.2 hx hck)
    have hin : lmIn (P : Int) (L : Int) = true := by unfold lmIn; rw [hck, decide_eq_true (by omega)]; rfl
    have HLM := Lib.hid (fun W (h : Below w.heap.size w W) => leastMissed_impl (P : Int) (L : Int) W x0 x1 (HE0.out.keep h) (HE1.out.keep h))
    rw [(lm_yes hin).1, (lm_yes hin).2, Int.toNat_natCast, Int.toNat_natCast] at HLM
    have HCM : Hid (∀ (c : Nat) (W : World), 1 ≤ c → c ≤ 4 → Below w.heap.size w W → Calls Tryd.prog 21 #[.int .i64 (P : Int), .int .i64 (L : Int), .int .i64 (c : Int)] W fun e w' => e = .returned (.tuple #[.int .i64 ((cmN P (Nat.log2 P) L c : Nat) : Int), .bool true]) ∧ Below W.heap.size W w') := by
      show ∀ c W, _
      intro c W h1 h4 h
      have hok : cmOk8 (P : Int) (L : Int) (c : Int) = true := by unfold cmOk8; rw [hck, decide_eq_true (by omega), decide_eq_true (by omega)]; rfl
      have := countMissed_impl (P : Int) (L : Int) (c : Int) W x0 (HE0.out.keep h)
      rw [cm8_yes hok, hok, Int.toNat_natCast, Int.toNat_natCast, Int.toNat_natCast] at this
      exact this
    obtain ⟨D, hD⟩ : ∃ D, D = Nat.log2 P := ⟨_, rfl⟩
    rw [← hD] at HHE HLM HCM
    have hM512 : 2 ^ L ≤ 512 := by have := Nat.pow_le_pow_right (show 0 < 2 by omega) hL9.2; omega
    have hM1 : 2 ≤ 2 ^ L := by have := Nat.pow_le_pow_right (show 0 < 2 by omega) hL9.1; omega
    obtain ⟨M, hM⟩ : ∃ M, M = 2 ^ L := ⟨_, rfl⟩
    have eM : IntKind.i64.wrap (2 ^ L : Int) = (M : Int) := by
      have h2 : (2 ^ L : Int) = ((2 ^ L : Nat) : Int) := by rw [Int.natCast_pow]; rfl
      rw [h2, ← hM, IntKind.wrap_i64]; omega
    have hLm : min L 64 = L := by omega
    have hL0 : (0 : Int) ≤ (L : Int) := by omega
    have eL : IntKind.u64.wrap (L : Int) = (L : Int) := u64_w L (by omega)
    have HMP := Lib.hid hM
    rw [← hM] at hM512 hM1 HHC HHE
    have HZ : Hid (Bk w3 cb (pwV (ctL P D 1))) := by show Bk _ _ _; rw [ctL_one]; exact K3.out
    have HPC := Lib.hid hD
    clear hM hin hck hD K3 HY0 HR0 HK0 wa hmk hp B2
    go_wp2_with fail
    go_loopw [8] (fun xv wr => ∃ x : Nat, xv = .int .i64 (x : Int) ∧ 1 ≤ x ∧ x ≤ M ∧ Bk wr cb (pwV (ctL P D x)) ∧ Below w.heap.size w wr) (fun xv _ => M - (intOf xv).toNat)
    case atStart => exact ⟨1, rfl, Nat.le_refl _, by omega, HZ.out, B3.out⟩
    case round =>
      obtain ⟨x, rfl, hx1, hxM, hbk, hb⟩ := hrel
      have HK := Lib.hid hbk
      have HB := Lib.hid hb
      clear hbk hb HZ B3
      by_cases hlt : x < M
      · have h9 := hL9.2
        have H9 := Lib.hid hL9
        clear hL9
        have HIC : Hid (∀ m, m < L → ∀ K, K = L - 1 - m → pc (x / 2 ^ K) = x / 2 ^ K % 2 + pc (x / 2 ^ (L - m))) := by
          show ∀ m, _
          intro m hm K hK
          have e : L - m = K + 1 := by omega
          rw [e, Nat.pow_succ, ← Nat.div_div_eq_div_mul]
          exact pc_step _
        have HPL : Hid (∀ m, m ≤ L → pc (x / 2 ^ (L - m)) ≤ 9) := by
          show ∀ m, _
          intro m hm
          have h1 : x / 2 ^ (L - m) < 2 ^ L := Nat.lt_of_le_of_lt (Nat.div_le_self _ _) (by rw [← HMP.out]; exact hlt)
          have := (pc_le L _ h1).1
          omega
        go_wp2_with fail
        go_loopw [9, 10, 11] (fun bs wt kv wr => ∃ (m : Nat) (z : Int), m ≤ L ∧ kv = .int .i64 z ∧ z = (L : Int) - 1 - m ∧ bs = .string ⟨(digs (x : Int) L m).toArray⟩ ∧ wt = .int .i64 ((pc (x / 2 ^ (L - m)) : Nat) : Int) ∧ Bk wr cb (pwV (ctL P D x)) ∧ Below w.heap.size w wr) (fun _ _ kv _ => (intOf kv + 1).toNat)
        case atStart =>
          refine ⟨0, (L : Int) - 1, Nat.zero_le _, rfl, by omega, rfl, ?_, HK.out, HB.out⟩
          rw [Nat.sub_zero, Nat.div_eq_of_lt (by rw [← HMP.out]; exact hlt), pc_zero]; rfl
        case round =>
          clear HK HB
          obtain ⟨m, z, hm, rfl, hz, rfl, rfl, hbk, hb⟩ := hrel
          have HK := Lib.hid hbk
          have HB := Lib.hid hb
          have hpl := HPL.out m hm
          by_cases hml : m < L
          · obtain ⟨K, hK⟩ : ∃ K, K = L - 1 - m := ⟨_, rfl⟩
            obtain rfl : z = (K : Int) := by omega
            have hic := HIC.out m hml K hK
            have hpl2 := HPL.out (m + 1) (by omega)
            rw [show L - (m + 1) = K by omega] at hpl2
            have hdg := digs_succ (x : Int) L m
            rw [← hK] at hdg
            have hcv := dg_val (x : Int) K
            obtain ⟨q, hq⟩ : ∃ q, q = x / 2 ^ K := ⟨_, rfl⟩
            rw [← hq] at hic hpl2
            have eq1 : (x : Int) / 2 ^ K = (q : Int) := by rw [hq, Int.natCast_ediv]; congr 1
            rw [eq1] at hcv
            obtain ⟨d, hd⟩ : ∃ d, d = q % 2 := ⟨_, rfl⟩
            have ea : bits .and .i64 (q : Int) 1 = (d : Int) := by rw [i64_and1, hd]; exact (Int.natCast_emod q 2).symm
            have hd2 : d < 2 := by omega
            rw [← hd] at hic
            obtain ⟨c, hc⟩ : ∃ c, c = dg (x : Int) K := ⟨_, rfl⟩
            rw [← hc] at hdg hcv
            have hcd : (c.toNat : Int) = 48 + (d : Int) := by omega
            have e48 : IntKind.i64.wrap (48 + (d : Int)) = 48 + (d : Int) := by rw [IntKind.wrap_i64]; omega
            have e8 : IntKind.u8.wrap (48 + (d : Int)) = (c.toNat : Int) := by
              rw [hcd, show IntKind.u8.wrap (48 + (d : Int)) = (48 + (d : Int)) % 256 by simp [IntKind.wrap, IntKind.bits, IntKind.signed]]; omega
            have eK : IntKind.u64.wrap (K : Int) = (K : Int) := u64_w K (by omega)
            have hKm : min K 64 = K := by omega
            have hK0 : (0 : Int) ≤ (K : Int) := by omega
            have hcn := fun W => conv_one W c
            obtain ⟨S1, hS1⟩ : ∃ S1 : ByteArray, S1 = ⟨(digs (x : Int) L m).toArray⟩ := ⟨_, rfl⟩
            obtain ⟨N1, hN1⟩ : ∃ N1 : ByteArray, N1 = ⟨(digs (x : Int) L (m + 1)).toArray⟩ := ⟨_, rfl⟩
            have r1 : ∀ W : World, (Op.stringOp .add S1 ⟨#[c]⟩).run Tryd.prog W = .ok (.string N1) W := fun W => by
              have hs : S1.size = m := by rw [hS1]; show (digs (x : Int) L m).toArray.size = _; rw [List.size_toArray, digs_length]
              rw [run_string_add_sum W _ _ (by rw [hs]; show m + 1 ≤ _; omega), hS1, hN1, hdg]
              have := ba_app (digs (x : Int) L m) [c]
              rw [← this]
            rw [← hS1]
            have HN1 := Lib.hid hN1
            obtain ⟨wo, hwo⟩ : ∃ wo, wo = pc (x / 2 ^ (L - m)) := ⟨_, rfl⟩
            rw [← hwo] at hic hpl ⊢
            have ew : IntKind.i64.wrap ((wo : Int) + (d : Int)) = ((pc q : Nat) : Int) := by rw [IntKind.wrap_i64, hic]; omega
            have HQ := Lib.hid hq
            have HKL := Lib.hid hK
            have HK2 := Lib.hid (HK.out.alloc (.cells #[.int .u8 (c.toNat : Int)] 5))
            have HB2 := Lib.hid (HB.out.alloc HB.out.size (.cells #[.int .u8 (c.toNat : Int)] 5))
            clear hdg hcv hq hd hc hcd hS1 hN1 hwo hic hK hz hbk hb HK HB
            go_wp2_with fail
            go_roundw
            case rel => exact ⟨m + 1, (K : Int) - 1, by omega, by go_num, by have := HKL.out; omega, by rw [HN1.out], by rw [HQ.out, show L - (m + 1) = K by have := HKL.out; omega], HK2.out, HB2.out⟩
            case measure => simp [intOf]
          · obtain rfl : m = L := by omega
            obtain rfl : z = -1 := by omega
            have hw : pc (x / 2 ^ (m - m)) = pc x := by rw [Nat.sub_self, Nat.pow_zero, Nat.div_one]
            rw [hw] at hpl ⊢
            have HC := Lib.hid (fun W h => HHC.out x hlt W h)
            rw [HHE.out x hlt] at HC
            have HYE := Lib.hid (fun h h2 => ctL_yes P D x hx1 h h2)
            have HNO := Lib.hid (ctL_no P D x)
            have HVL := Lib.hid (ctL_le P D x (pc x))
            obtain ⟨wt, hwt⟩ : ∃ wt, wt = pc x := ⟨_, rfl⟩
            rw [← hwt] at hpl HYE HNO HVL ⊢
            clear hw hwt HIC HPL hm hml hz
            by_cases h3 : wt ≤ 3
            · by_cases hr : rd P D x = 0
              · rw [decide_eq_true hr] at HC
                have HY := Lib.hid (HYE.out h3 hr)
                have ht := pwV_at (ctL P D x) wt (by rw [ctL_len]; omega)
                have hvl := HVL.out
                obtain ⟨u, hu⟩ : ∃ u, u = (ctL P D x).getD wt 0 := ⟨_, rfl⟩
                rw [← hu] at HY hvl ht
                have HT := Lib.hid ht
                have eu : IntKind.i64.wrap ((u : Int) + 1) = ((u + 1 : Nat) : Int) := by rw [IntKind.wrap_i64]; omega
                have hj0 : (0 : Int) ≤ (wt : Int) := by omega
                have hj1 : (wt : Int) < 4 := by omega
                clear hu ht hbk hb HYE HNO HVL HHC HHE
                go_wp2_with fail
                refine (HC.out _ HB.out).mono ?_; rintro e w5 ⟨rfl, hb5⟩
                have k5 := HK.out.keep hb5
                have HB5 := Lib.hid (HB.out.trans (hb5.mono HB.out.size))
                have ht : w5.cell? ⟨cb, wt, none⟩ = some (.int .i64 (u : Int)) := k5.c wt _ HT.out
                have hf := k5.f wt (by rw [pwV_len, ctL_len]; omega)
                have HKS := Lib.hid (k5.set wt (by rw [pwV_len, ctL_len]; omega) (.int .i64 ((u + 1 : Nat) : Int)))
                rw [pwV_set, ← HY.out] at HKS
                have HBS := Lib.hid (HB5.out.setCell (p := ⟨cb, wt, none⟩) hlow (.int .i64 ((u + 1 : Nat) : Int)))
                clear hb5 k5 HC
                go_wp2_with fail
                go_roundw
                case rel => exact ⟨x + 1, by go_num, by omega, by omega, HKS.out, HBS.out⟩
                case measure => simp [intOf]; omega
              · rw [decide_eq_false hr] at HC
                have HN := Lib.hid (HNO.out (.inl (fun h => hr h.2)))
                clear hbk hb HYE HNO HVL HHC HHE
                go_wp2_with fail
                refine (HC.out _ HB.out).mono ?_; rintro e w5 ⟨rfl, hb5⟩
                have K5 := Lib.hid (HK.out.keep hb5)
                have HB5 := Lib.hid (HB.out.trans (hb5.mono HB.out.size))
                clear hb5 HC
                go_wp2_with fail
                go_roundw
                case rel => exact ⟨x + 1, by go_num, by omega, by omega, by rw [HN.out]; exact K5.out, HB5.out⟩
                case measure => simp [intOf]; omega
            · have HN := Lib.hid (HNO.out (.inl (fun h => h3 h.1)))
              clear hbk hb HYE HNO HVL HHC HHE HC
              go_wp2_with fail
              go_roundw
              case rel => exact ⟨x + 1, by go_num, by omega, by omega, by rw [HN.out]; exact HK.out, HB.out⟩
              case measure => simp [intOf]; omega
      · obtain rfl : x = M := by omega
        have HCT : Hid (∀ c, 1 ≤ c → c ≤ 3 → (pwV (ctL P D x))[c]? = some (.int .i64 ((cmN P D L c : Nat) : Int))) := by
          show ∀ c, _
          intro c h1 h3
          have := ctL_end P D L c h1 h3
          rw [← HMP.out] at this
          unfold pwV
          rw [List.getElem?_map, this]; rfl
        have HBD : Hid (∀ c, cmN P D L c ≤ 512) := by
          show ∀ c, _
          intro c
          have := hits_le (hitB P D c) (2 ^ L)
          have := HMP.out
          unfold cmN; omega
        have HFS := Lib.hid (FsW.start P D L)
        have HFH := Lib.hid (fun k f h hk hc => @FsW.hit P D L k f h hk hc)
        have HFM := Lib.hid (fun k f h hk hc => @FsW.miss P D L k f h hk hc)
        have HFF := Lib.hid (fun f h => @FsW.fin P D L f h)
        clear HHE HHC hM1 HPC
        go_wp2_with fail
        refine (HLM.out _ HB.out).mono ?_; rintro e w4 ⟨rfl, hb4⟩
        have HK4 := Lib.hid (HK.out.keep hb4)
        have HB4 := Lib.hid (HB.out.trans (hb4.mono HB.out.size))
        clear hb4 HK HB HLM HMP eM hLm hL0 eL hxM hlt hM512
        go_wp2_with fail
        go_loopw [14, 15] (fun fv cv wr => ∃ f c : Nat, fv = .int .i64 (f : Int) ∧ cv = .int .i64 (c : Int) ∧ 1 ≤ c ∧ c ≤ 4 ∧ FsW P D L c f ∧ Bk wr cb (pwV (ctL P D x)) ∧ Below w.heap.size w wr) (fun _ cv _ => 4 - (intOf cv).toNat)
        case atStart => exact ⟨0, 1, rfl, rfl, Nat.le_refl _, by omega, HFS.out, HK4.out, HB4.out⟩
        case round =>
          clear HK4 HB4 HFS
          obtain ⟨f, c, rfl, rfl, c1, c4, hfs, hbk, hb⟩ := hrel
          have HF := Lib.hid hfs
          have HK := Lib.hid hbk
          have HB := Lib.hid hb
          have hbd := HBD.out c
          clear hfs hbk hb
          by_cases hc3 : c ≤ 3
          · have HC := Lib.hid (fun W h => HCM.out c W c1 c4 h)
            have HCE := Lib.hid (HCT.out c c1 hc3)
            have hh := HFH.out c f HF.out c1
            have hm := HFM.out c f HF.out c1
            obtain ⟨X, hX⟩ : ∃ X, X = cmN P D L c := ⟨_, rfl⟩
            rw [← hX] at HC HCE hh hm hbd
            have HHH := Lib.hid hh
            have HMM := Lib.hid hm
            clear hX hh hm
            have hj0 : (0 : Int) ≤ (c : Int) := by omega
            have hj1 : (c : Int) < 4 := by omega
            go_wp2_with fail
            refine (HC.out _ HB.out).mono ?_; rintro e w5 ⟨rfl, hb5⟩
            have k5 := HK.out.keep hb5
            have K5 := Lib.hid k5
            have B5 := Lib.hid (HB.out.trans (hb5.mono HB.out.size))
            have ht := k5.c c _ HCE.out
            clear hb5 k5 HC HK HB
            by_cases hx0 : 0 < X
            · have hx0' : (0 : Int) < (X : Int) := by omega
              by_cases hf : f = 0
              · subst hf
                have HN := Lib.hid (HHH.out hx0)
                clear HHH HMM
                go_wp2_with fail
                go_roundw
                case rel => exact ⟨c, c + 1, rfl, by go_num, by omega, by omega, HN.out, K5.out, B5.out⟩
                case measure => simp [intOf]; omega
              · have hfn : ((f : Int) == 0) = false := by simpa using (show ¬ (f : Int) = 0 by omega)
                have HN := HHH.out hx0
                rw [if_neg hf] at HN
                have HN := Lib.hid HN
                clear HHH HMM
                go_wp2_with fail
                go_roundw
                case rel => exact ⟨f, c + 1, rfl, by go_num, by omega, by omega, HN.out, K5.out, B5.out⟩
                case measure => simp [intOf]; omega
            · obtain rfl : X = 0 := by omega
              have HN := Lib.hid (HMM.out (by omega))
              rw [show ((0 : Nat) : Int) = 0 from rfl] at ht
              clear HHH HMM
              go_wp2_with fail
              go_roundw
              case rel => exact ⟨f, c + 1, rfl, by go_num, by omega, by omega, HN.out, K5.out, B5.out⟩
              case measure => simp [intOf]; omega
          · obtain rfl : c = 4 := by omega
            have HC : Hid (∀ W, Below w.heap.size w W → Calls Tryd.prog 21 #[.int .i64 (P : Int), .int .i64 (L : Int), .int .i64 4] W fun e w' => e = .returned (.tuple #[.int .i64 ((cmN P D L 4 : Nat) : Int), .bool true]) ∧ Below W.heap.size W w') := fun W h => HCM.out 4 W (by omega) (by omega) h
            have hh := HFH.out 4 f HF.out (by omega)
            have hm := HFM.out 4 f HF.out (by omega)
            obtain ⟨X, hX⟩ : ∃ X, X = cmN P D L 4 := ⟨_, rfl⟩
            rw [← hX] at HC hh hm hbd
            have hfc : f = 0 ∨ (1 ≤ f ∧ f < 4) := by
              rcases HF.out with ⟨h, -⟩ | ⟨h1, h2, -⟩
              · exact .inl h
              · exact .inr ⟨h1, h2⟩
            clear hX HCM HCT HBD
            clear hbd HFH HFM hc3 c1 c4 HF HK
            rcases hfc with rfl | ⟨f1, f4⟩
            · by_cases hx0 : 0 < X
              · have hx0' : (0 : Int) < (X : Int) := by omega
                have h5 := hh hx0
                rw [if_pos rfl] at h5
                rcases HFF.out _ h5 with ⟨h, -⟩ | ⟨-, e1, e2⟩
                · cases h
                rw [e1, e2]
                clear hh hm h5 e1 e2 HFF
                go_wp2_with fail
                refine (HC.out _ HB.out).mono ?_; rintro e w5 ⟨rfl, hb5⟩
                have B5 := Lib.hid (HB.out.trans (hb5.mono HB.out.size))
                clear hb5
                go_wp2_with fail
                go_ret
                exact ⟨rfl, B5.out⟩
              · obtain rfl : X = 0 := by omega
                rcases HFF.out _ (hm (by omega)) with ⟨-, e2⟩ | ⟨h, -⟩
                · rw [e2]
                  rw [show ((0 : Nat) : Int) = 0 from rfl] at HC
                  clear hh hm e2 HFF hx0
                  go_wp2_with fail
                  refine (HC.out _ HB.out).mono ?_; rintro e w5 ⟨rfl, hb5⟩
                  have B5 := Lib.hid (HB.out.trans (hb5.mono HB.out.size))
                  clear hb5
                  go_wp2_with fail
                  go_ret
                  exact ⟨rfl, B5.out⟩
                · exact absurd h (by omega)
            · have h5 : FsW P D L (4 + 1) f := by
                by_cases hx0 : 0 < X
                · have := hh hx0; rw [if_neg (by omega)] at this; exact this
                · exact hm hx0
              rcases HFF.out _ h5 with ⟨h, -⟩ | ⟨-, e1, e2⟩
              · omega
              rw [e1, e2]
              have hf0 : (0 : Int) < (f : Int) := by omega
              clear hh hm h5 e1 e2 HFF
              go_wp2_with fail
              refine (HC.out _ HB.out).mono ?_; rintro e w5 ⟨rfl, hb5⟩
              have B5 := Lib.hid (HB.out.trans (hb5.mono HB.out.size))
              clear hb5
              go_wp2_with fail
              go_ret
              exact ⟨rfl, B5.out⟩
end Go.Proofs.YtkgfmpkpeipddabDoor
