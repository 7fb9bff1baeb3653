/- math/bits.Div64 and Rem64. -/
import Derived.Test.YtnpigefbdadjfaaDoorKnP
import Derived.Test.YtnpigefbdadjfaaDoorShelf
import Derived.Lib.ItoaNum
import Derived.WalkKit
import Derived.Lib.Hide
import Derived.Deep.QuietTactic
import Derived.BigQuiet
namespace Go.Proofs.YtnpigefbdadjfaaDoor
open Go Go.RowKit
set_option linter.unusedVariables false

theorem len_up {y : Nat} (h0 : y ≠ 0) (h : y < 18446744073709551616) : ∃ s : Nat, s ≤ 63 ∧ 64 - (Lib.bitLen y : Int) = (s : Int) ∧ 9223372036854775808 ≤ y * 2 ^ s ∧ y * 2 ^ s < 18446744073709551616 := by
  obtain ⟨h1, h2, h3⟩ := Lib.bitLenAux_bounds 64 y (by simpa using h) h0
  have h4 := Lib.bitLen_le y 64 (Nat.le_refl _) (by simpa using h)
  have h5 : 2 ^ (Lib.bitLen y) ≤ 2 * y := by
    have e : Lib.bitLen y = (Lib.bitLen y - 1) + 1 := by have : 1 ≤ Lib.bitLen y := h1; omega
    rw [e, Nat.pow_succ]
    have : 2 ^ (Lib.bitLen y - 1) ≤ y := h2
    omega
  have h6 := kn_up (y := y) (k := Lib.bitLen y) h4 h5 h3
  exact ⟨64 - Lib.bitLen y, by have : 1 ≤ Lib.bitLen y := h1; omega, by omega, h6.1, h6.2⟩

set_option maxRecDepth 100000 in
set_option maxHeartbeats 1000000 in
theorem div64_any (hi lo y : Nat) (w : World) (h1 : hi < y) (h2 : lo < 18446744073709551616) (h3 : y < 18446744073709551616) :
    Calls Tryd.prog 128 #[.int .u64 (hi : Int), .int .u64 (lo : Int), .int .u64 (y : Int)] w fun e w' => e = .returned (.tuple #[.int .u64 (((hi * 18446744073709551616 + lo) / y : Nat) : Int), .int .u64 (((hi * 18446744073709551616 + lo) % y : Nat) : Int)]) ∧ ∃ q, w' = w.drewN q := by
  have hy0 : ((y : Int) == 0) = false := by rw [beq_eq_false_iff_ne]; omega
  have hyh : ¬ (y : Int) ≤ (hi : Int) := by omega
  by_cases hz : hi = 0
  · subst hz
    have e : 0 * 18446744073709551616 + lo = lo := by omega
    rw [e]
    have hl0 : (0 : Int) ≤ (lo : Int) := by omega
    have hy1 : (0 : Int) < (y : Int) := by omega
    have hq : (lo : Int) / (y : Int) = ((lo / y : Nat) : Int) := (Int.natCast_ediv lo y).symm
    have HR : Hid ((lo : Int) % (y : Int) = ((lo % y : Nat) : Int)) := (Int.natCast_emod lo y).symm
    have hqb : lo / y ≤ lo := Nat.div_le_self _ _
    have hrb : lo % y < y := Nat.mod_lt _ (by omega)
    generalize lo / y = Q at *
    have w2 : IntKind.u64.wrap ((lo : Int) % (y : Int)) = (lo : Int) % (y : Int) := by have := HR.out; simp only [IntKind.wrap_u64]; omega
    generalize lo % y = R at *
    have w1 : IntKind.u64.wrap (Q : Int) = (Q : Int) := by simp only [IntKind.wrap_u64]; omega
    clear e
    go_enter Tryd.func128, Tryd.ntmps128
    go_wp2_with fail
    go_quiet (fail)
    go_wp2_with fail
    go_ret2
    exact ⟨by rw [← HR.out]; rfl, _, rfl⟩
  · obtain ⟨s, s0, s1, s2, s3⟩ := len_up (y := y) (by omega) h3
    have HLZ : Hid (∀ W, Calls Tryd.prog 154 #[.int .u64 (y : Int)] W fun e w' => e = .returned (.int .i64 (s : Int)) ∧ w' = W) := by
      show ∀ W, _
      intro W
      have := Tryd.bits_LeadingZeros64 (y : Int) W (by omega) (by omega)
      rwa [show ((y : Int).toNat) = y from Int.toNat_natCast y, s1] at this
    have hz' : ((hi : Int) == 0) = false := by rw [beq_eq_false_iff_ne]; omega
    have ws : IntKind.u64.wrap (s : Int) = (s : Int) := by simp only [IntKind.wrap_u64]; omega
    clear s1
    go_enter Tryd.func128, Tryd.ntmps128
    go_wp2_with fail
    refine (HLZ.out _).mono ?_; rintro e w' ⟨rfl, rfl⟩
    -- GEN
    obtain ⟨Y, hY⟩ : ∃ x : Nat, x = y * 2 ^ s := ⟨_, rfl⟩
    obtain ⟨LO, hLO⟩ : ∃ x : Nat, x = lo * 2 ^ s % 18446744073709551616 := ⟨_, rfl⟩
    obtain ⟨U, hU⟩ : ∃ x : Nat, x = hi * 2 ^ s + lo / 2 ^ (64 - s) := ⟨_, rfl⟩
    have HW := Lib.hid (kn_words (hi := hi) (lo := lo) (s := s) (by omega) h2)
    have hin := kn_in (lo := lo) (s := s) (by omega) h2
    have hyu : hi * 2 ^ s + 2 ^ s ≤ y * 2 ^ s := by
      have := Nat.mul_le_mul_right (2 ^ s) (show hi + 1 ≤ y by omega)
      rw [Nat.add_mul, Nat.one_mul] at this
      exact this
    rw [← hY] at s2 s3 hyu
    rw [← hU, ← hLO] at HW
    have hUY : U < Y := by omega
    have hLOb : LO < 18446744073709551616 := by rw [hLO]; exact Nat.mod_lt _ (by decide)
    have pc : ∀ k : Nat, ((2 : Int) ^ k) = ((2 ^ k : Nat) : Int) := fun k => by simp
    have wy : IntKind.u64.wrap ((y : Int) * 2 ^ s) = (Y : Int) := by
      rw [pc, ← Int.natCast_mul, ← hY]; simp only [IntKind.wrap_u64]; omega
    have hps : 0 < 2 ^ s := Nat.pow_pos (by decide)
    have hhb : hi * 2 ^ s < 18446744073709551616 := by omega
    have wh : IntKind.u64.wrap ((hi : Int) * 2 ^ s) = (hi : Int) * 2 ^ s := by
      rw [pc, ← Int.natCast_mul]; simp only [IntKind.wrap_u64]; omega
    have wl : IntKind.u64.wrap ((lo : Int) * 2 ^ s) = (LO : Int) := by
      rw [pc, ← Int.natCast_mul, hLO]; simp only [IntKind.wrap_u64]; omega
    have HWO : Hid (bits .or .u64 ((hi : Int) * 2 ^ s) ((lo : Int) / 2 ^ (64 - s)) = (U : Int)) := by
      show _ = _
      have hlo2 : lo / 2 ^ (64 - s) < 18446744073709551616 := Nat.lt_of_le_of_lt (Nat.div_le_self _ _) h2
      rw [pc, pc, ← Int.natCast_mul, ← Int.natCast_ediv, bits_or_u64_nat _ _ (by omega) (by omega), hU]
      congr 1
      have := Nat.shiftLeft_add_eq_or_of_lt hin hi
      rw [Nat.shiftLeft_eq] at this
      exact this.symm
    have wa : ∀ x : Nat, x < 18446744073709551616 → bits .and .u64 (x : Int) 4294967295 = (x : Int) % 4294967296 := by
      intro x hx
      rw [u64_and _ _ (by omega) (by omega) (by decide) (by decide)]
      have := Nat.and_two_pow_sub_one_eq_mod x 32
      simp at this ⊢
      omega
    have wa1 := wa Y s3
    have wa2 := wa LO hLOb
    have HD1 : Hid (KnD ((Y : Int) / 4294967296) ((Y : Int) % 4294967296) (U : Int) ((LO : Int) / 4294967296)) := by
      refine ⟨?_, ?_, ?_, ?_, ?_, ?_, ?_, ?_⟩ <;> omega
    have HYY : Hid ((Y : Int) = knY ((Y : Int) / 4294967296) ((Y : Int) % 4294967296)) := by show _ = _; unfold knY; omega
    have HEY := Lib.hid hY
    clear pc wa hps hin hyu hhb hY hLO hU
    obtain ⟨Y1, hY1⟩ : ∃ x, (Y : Int) / 4294967296 = x := ⟨_, rfl⟩
    obtain ⟨Y0, hY0⟩ : ∃ x, (Y : Int) % 4294967296 = x := ⟨_, rfl⟩
    obtain ⟨V1, hV1⟩ : ∃ x, (LO : Int) / 4294967296 = x := ⟨_, rfl⟩
    obtain ⟨V0, hV0⟩ : ∃ x, (LO : Int) % 4294967296 = x := ⟨_, rfl⟩
    rw [hY1, hY0, hV1] at HD1
    rw [hY1, hY0] at HYY
    have HV1 := Lib.hid hV1
    have HV0 := Lib.hid hV0
    have vb0 : 0 ≤ V0 := by omega
    have vb1 : V0 < 4294967296 := by omega
    obtain ⟨ya1, ya2, yb1, yb2, yc1, yc2, yv1, yv2⟩ := HD1.out
    have hyz : (Y1 == 0) = false := by rw [beq_eq_false_iff_ne]; omega
    have hyp : 0 < Y1 := by omega
    have HI1 := Lib.hid (knQ_init HD1.out)
    have w10 := HI1.out.1.q0
    have w11 := HI1.out.1.r0
    have w12 := HI1.out.2
    have w13 := HI1.out.1.q1
    obtain ⟨i1, hi1⟩ : ∃ x, (U : Int) / Y1 = x := ⟨_, rfl⟩
    rw [hi1] at HI1 w10 w11 w12 w13
    have ht1 : (U : Int).tdiv Y1 = i1 := by rw [Int.tdiv_eq_ediv_of_nonneg (by omega)]; exact hi1
    have x11 : IntKind.u64.wrap i1 = i1 := by simp only [IntKind.wrap_u64]; omega
    obtain ⟨ip1, hip1⟩ : ∃ x, i1 * Y1 = x := ⟨_, rfl⟩
    have x10 : 0 ≤ ip1 := by rw [← hip1]; exact Int.mul_nonneg w10 (by omega)
    have x12 : IntKind.u64.wrap ip1 = ip1 := by rw [hip1] at w11 w12; simp only [IntKind.wrap_u64]; omega
    have x13 : IntKind.u64.wrap ((U : Int) - ip1) = (U : Int) - ip1 := by rw [hip1] at w11 w12; simp only [IntKind.wrap_u64]; omega
    rw [hip1] at w11 w12
    go_wp2_with fail
    rw [HWO.out, ht1, x11, hip1, x12, x13]
    go_loop [15, 16] (fun qv rv => ∃ q r : Int, qv = .int .u64 q ∧ rv = .int .u64 r ∧ KnQ Y1 Y0 (U : Int) V1 q r ∧ r < 4294967296) (fun qv _ => (intOf qv).toNat)
    case atStart => exact ⟨i1, (U : Int) - ip1, rfl, rfl, by have := HI1.out.1; rwa [hip1] at this, w12⟩
    case round =>
      obtain ⟨q1, r, rfl, rfl, hk, hr⟩ := hrel
      have HK := Lib.hid hk
      have k0 := hk.q0
      have k1 := hk.q1
      have k2 := hk.r0
      clear hk
      have HBD := Lib.hid (kn_bd HD1.out HK.out)
      have wr1 : IntKind.u64.wrap (r + Y1) = r + Y1 := by simp only [IntKind.wrap_u64]; omega
      by_cases hbig : 4294967296 ≤ q1
      · have HL := Lib.hid (kn_less HD1.out HK.out (kn_big HD1.out HK.out hbig))
        have h1q := HL.out.2
        have wq1 : IntKind.u64.wrap (q1 - 1) = q1 - 1 := by simp only [IntKind.wrap_u64]; omega
        by_cases hbr : 4294967296 ≤ r + Y1
        · have HE1 := Lib.hid (kn_done HD1.out HL.out.1 (kn_break HD1.out HL.out.1 hbr (by omega)))
          clear HL
          obtain ⟨R1, hR1⟩ : ∃ x, x = knN (U : Int) V1 % (Y : Int) := ⟨_, rfl⟩
          have HR1 := Lib.hid hR1
          have HQ1 : Hid ((q1 - 1) = knN (U : Int) V1 / (Y : Int)) := by show _ = _; rw [HYY.out]; exact HE1.out.1
          have rb01 : 0 ≤ R1 := by rw [hR1]; exact Int.emod_nonneg _ (by omega)
          have rb11 : R1 < (Y : Int) := by rw [hR1]; exact Int.emod_lt_of_pos _ (by omega)
          have hqb1 : 0 ≤ (q1 - 1) ∧ (q1 - 1) ≤ 4294967295 := by rw [HQ1.out, HYY.out]; exact kn_quo HD1.out
          obtain ⟨c01, c11⟩ := hqb1
          have hLF := kn_left (u := (U : Int)) (v := V1) (p := ((q1 - 1)) * (Y : Int)) (r := R1) (by rw [hR1, HYY.out]; exact HE1.out.2) rb01 (by omega)
          obtain ⟨PP1, hPP1⟩ : ∃ x, ((q1 - 1)) * (Y : Int) = x := ⟨_, rfl⟩
          rw [hPP1] at hLF
          obtain ⟨A1, hA1⟩ : ∃ x, IntKind.u64.wrap ((U : Int) * 4294967296) = x := ⟨_, rfl⟩
          obtain ⟨B1, hB1⟩ : ∃ x, IntKind.u64.wrap (A1 + V1) = x := ⟨_, rfl⟩
          obtain ⟨C1, hC1⟩ : ∃ x, IntKind.u64.wrap PP1 = x := ⟨_, rfl⟩
          have hF1 : IntKind.u64.wrap (B1 - C1) = R1 := by
            rw [← hB1, ← hA1, ← hC1]
            simp only [IntKind.wrap_u64] at hLF ⊢
            omega
          clear hLF hR1
          obtain ⟨QA, hQA⟩ : ∃ x, x = (q1 - 1) := ⟨_, rfl⟩
          have HQA : Hid (QA = knN (U : Int) V1 / (Y : Int)) := by show _ = _; rw [hQA]; exact HQ1.out
          have HD2 : Hid (KnD Y1 Y0 R1 V0) := by
            obtain ⟨a1, a2, b1, b2, -, -, -, -⟩ := HD1.out
            refine ⟨a1, a2, b1, b2, rb01, ?_, vb0, vb1⟩
            have := HYY.out
            unfold knY at this
            omega
          have HI2 := Lib.hid (knQ_init HD2.out)
          have w20 := HI2.out.1.q0
          have w21 := HI2.out.1.r0
          have w22 := HI2.out.2
          have w23 := HI2.out.1.q1
          obtain ⟨i2, hi2⟩ : ∃ x, R1 / Y1 = x := ⟨_, rfl⟩
          rw [hi2] at HI2 w20 w21 w22 w23
          have x21 : IntKind.u64.wrap i2 = i2 := by simp only [IntKind.wrap_u64]; omega
          obtain ⟨ip2, hip2⟩ : ∃ x, i2 * Y1 = x := ⟨_, rfl⟩
          have x20 : 0 ≤ ip2 := by rw [← hip2]; exact Int.mul_nonneg w20 (by omega)
          rw [hip2] at w21 w22
          have x22 : IntKind.u64.wrap ip2 = ip2 := by simp only [IntKind.wrap_u64]; omega
          have x23 : IntKind.u64.wrap (R1 - ip2) = R1 - ip2 := by simp only [IntKind.wrap_u64]; omega

          go_wp2_with fail
          go_loop [18, 16] (fun qv rv => ∃ q r : Int, qv = .int .u64 q ∧ rv = .int .u64 r ∧ KnQ Y1 Y0 R1 V0 q r ∧ r < 4294967296) (fun qv _ => (intOf qv).toNat)
          case atStart => exact ⟨i2, R1 - ip2, rfl, rfl, by have := HI2.out.1; rwa [hip2] at this, w22⟩
          case round =>
            obtain ⟨q2, r, rfl, rfl, hk, hr⟩ := hrel
            have HK := Lib.hid hk
            have k0 := hk.q0
            have k1 := hk.q1
            have k2 := hk.r0
            clear hk
            have HBD := Lib.hid (kn_bd HD2.out HK.out)
            have wr1 : IntKind.u64.wrap (r + Y1) = r + Y1 := by simp only [IntKind.wrap_u64]; omega
            by_cases hbig : 4294967296 ≤ q2
            · have HL := Lib.hid (kn_less HD2.out HK.out (kn_big HD2.out HK.out hbig))
              have h1q := HL.out.2
              have wq1 : IntKind.u64.wrap (q2 - 1) = q2 - 1 := by simp only [IntKind.wrap_u64]; omega
              by_cases hbr : 4294967296 ≤ r + Y1
              · have HE2 := Lib.hid (kn_done HD2.out HL.out.1 (kn_break HD2.out HL.out.1 hbr (by omega)))
                clear HL
                obtain ⟨R2, hR2⟩ : ∃ x, x = knN R1 V0 % (Y : Int) := ⟨_, rfl⟩
                have HR2 := Lib.hid hR2
                have HQ2 : Hid ((q2 - 1) = knN R1 V0 / (Y : Int)) := by show _ = _; rw [HYY.out]; exact HE2.out.1
                have rb02 : 0 ≤ R2 := by rw [hR2]; exact Int.emod_nonneg _ (by omega)
                have rb12 : R2 < (Y : Int) := by rw [hR2]; exact Int.emod_lt_of_pos _ (by omega)
                have hqb2 : 0 ≤ (q2 - 1) ∧ (q2 - 1) ≤ 4294967295 := by rw [HQ2.out, HYY.out]; exact kn_quo HD2.out
                obtain ⟨c02, c12⟩ := hqb2
                have hLF := kn_left (u := R1) (v := V0) (p := ((q2 - 1)) * (Y : Int)) (r := R2) (by rw [hR2, HYY.out]; exact HE2.out.2) rb02 (by omega)
                obtain ⟨PP2, hPP2⟩ : ∃ x, ((q2 - 1)) * (Y : Int) = x := ⟨_, rfl⟩
                rw [hPP2] at hLF
                obtain ⟨A2, hA2⟩ : ∃ x, IntKind.u64.wrap (R1 * 4294967296) = x := ⟨_, rfl⟩
                obtain ⟨B2, hB2⟩ : ∃ x, IntKind.u64.wrap (A2 + V0) = x := ⟨_, rfl⟩
                obtain ⟨C2, hC2⟩ : ∃ x, IntKind.u64.wrap PP2 = x := ⟨_, rfl⟩
                have hF2 : IntKind.u64.wrap (B2 - C2) = R2 := by
                  rw [← hB2, ← hA2, ← hC2]
                  simp only [IntKind.wrap_u64] at hLF ⊢
                  omega
                clear hLF hR2
                have wq3 : IntKind.u64.wrap (QA * 4294967296) = QA * 4294967296 := by simp only [IntKind.wrap_u64]; omega
                have wq4 : IntKind.u64.wrap (QA * 4294967296 + (q2 - 1)) = QA * 4294967296 + (q2 - 1) := by simp only [IntKind.wrap_u64]; omega
                have HFF : Hid (((hi : Int) * 18446744073709551616 + (lo : Int)) / (y : Int) = QA * 4294967296 + (q2 - 1) ∧ ((hi : Int) * 18446744073709551616 + (lo : Int)) % (y : Int) = R2 / 2 ^ s) := by
                  obtain ⟨z1, z2⟩ := kn_fin (y := y) (by omega) HEY.out HW.out
                  rw [HV1.out, HV0.out, ← HR1.out, ← HQA.out, ← HQ2.out] at z1
                  rw [HV1.out, HV0.out, ← HR1.out, ← HR2.out] at z2
                  rw [Int.natCast_ediv, Int.natCast_add, Int.natCast_mul] at z1
                  rw [Int.natCast_emod, Int.natCast_add, Int.natCast_mul] at z2
                  exact ⟨z1, z2⟩
                have HQE := Lib.hid hQA
                go_wp2_with fail
                go_ret2
                exact ⟨by rw [HFF.out.1, HFF.out.2, HQE.out]; rfl, 0, rfl⟩
              · go_wp2_with fail
                go_round
                case rel => exact ⟨q2 - 1, r + Y1, rfl, rfl, HL.out.1, by omega⟩
                case measure => simp [intOf]; omega
            · have HT := Lib.hid (kn_test HK.out)
              obtain ⟨b0, b1⟩ := HBD.out
              obtain ⟨P, hP⟩ : ∃ x, q2 * Y0 = x := ⟨_, rfl⟩
              rw [hP] at HT b0 b1
              have wP : IntKind.u64.wrap P = P := by simp only [IntKind.wrap_u64]; omega
              have wm : IntKind.u64.wrap (4294967296 * r) = 4294967296 * r := by simp only [IntKind.wrap_u64]; omega
              have wm2 : IntKind.u64.wrap (4294967296 * r + V0) = 4294967296 * r + V0 := by simp only [IntKind.wrap_u64]; omega
              by_cases hc : 4294967296 * r + V0 < P
              · have HL := Lib.hid (kn_less HD2.out HK.out (HT.out.1 (by omega)))
                have h1q := HL.out.2
                have wq1 : IntKind.u64.wrap (q2 - 1) = q2 - 1 := by simp only [IntKind.wrap_u64]; omega
                clear HT HBD
                by_cases hbr : 4294967296 ≤ r + Y1
                · have HE2 := Lib.hid (kn_done HD2.out HL.out.1 (kn_break HD2.out HL.out.1 hbr (by omega)))
                  clear HL
                  obtain ⟨R2, hR2⟩ : ∃ x, x = knN R1 V0 % (Y : Int) := ⟨_, rfl⟩
                  have HR2 := Lib.hid hR2
                  have HQ2 : Hid ((q2 - 1) = knN R1 V0 / (Y : Int)) := by show _ = _; rw [HYY.out]; exact HE2.out.1
                  have rb02 : 0 ≤ R2 := by rw [hR2]; exact Int.emod_nonneg _ (by omega)
                  have rb12 : R2 < (Y : Int) := by rw [hR2]; exact Int.emod_lt_of_pos _ (by omega)
                  have hqb2 : 0 ≤ (q2 - 1) ∧ (q2 - 1) ≤ 4294967295 := by rw [HQ2.out, HYY.out]; exact kn_quo HD2.out
                  obtain ⟨c02, c12⟩ := hqb2
                  have hLF := kn_left (u := R1) (v := V0) (p := ((q2 - 1)) * (Y : Int)) (r := R2) (by rw [hR2, HYY.out]; exact HE2.out.2) rb02 (by omega)
                  obtain ⟨PP2, hPP2⟩ : ∃ x, ((q2 - 1)) * (Y : Int) = x := ⟨_, rfl⟩
                  rw [hPP2] at hLF
                  obtain ⟨A2, hA2⟩ : ∃ x, IntKind.u64.wrap (R1 * 4294967296) = x := ⟨_, rfl⟩
                  obtain ⟨B2, hB2⟩ : ∃ x, IntKind.u64.wrap (A2 + V0) = x := ⟨_, rfl⟩
                  obtain ⟨C2, hC2⟩ : ∃ x, IntKind.u64.wrap PP2 = x := ⟨_, rfl⟩
                  have hF2 : IntKind.u64.wrap (B2 - C2) = R2 := by
                    rw [← hB2, ← hA2, ← hC2]
                    simp only [IntKind.wrap_u64] at hLF ⊢
                    omega
                  clear hLF hR2
                  have wq3 : IntKind.u64.wrap (QA * 4294967296) = QA * 4294967296 := by simp only [IntKind.wrap_u64]; omega
                  have wq4 : IntKind.u64.wrap (QA * 4294967296 + (q2 - 1)) = QA * 4294967296 + (q2 - 1) := by simp only [IntKind.wrap_u64]; omega
                  have HFF : Hid (((hi : Int) * 18446744073709551616 + (lo : Int)) / (y : Int) = QA * 4294967296 + (q2 - 1) ∧ ((hi : Int) * 18446744073709551616 + (lo : Int)) % (y : Int) = R2 / 2 ^ s) := by
                    obtain ⟨z1, z2⟩ := kn_fin (y := y) (by omega) HEY.out HW.out
                    rw [HV1.out, HV0.out, ← HR1.out, ← HQA.out, ← HQ2.out] at z1
                    rw [HV1.out, HV0.out, ← HR1.out, ← HR2.out] at z2
                    rw [Int.natCast_ediv, Int.natCast_add, Int.natCast_mul] at z1
                    rw [Int.natCast_emod, Int.natCast_add, Int.natCast_mul] at z2
                    exact ⟨z1, z2⟩
                  have HQE := Lib.hid hQA
                  go_wp2_with fail
                  go_ret2
                  exact ⟨by rw [HFF.out.1, HFF.out.2, HQE.out]; rfl, 0, rfl⟩
                · go_wp2_with fail
                  go_round
                  case rel => exact ⟨q2 - 1, r + Y1, rfl, rfl, HL.out.1, by omega⟩
                  case measure => simp [intOf]; omega
              · have HE2 := Lib.hid (kn_done HD2.out HK.out (fun h => hc (by have := HT.out.2 h; omega)))
                clear HT HBD
                obtain ⟨R2, hR2⟩ : ∃ x, x = knN R1 V0 % (Y : Int) := ⟨_, rfl⟩
                have HR2 := Lib.hid hR2
                have HQ2 : Hid (q2 = knN R1 V0 / (Y : Int)) := by show _ = _; rw [HYY.out]; exact HE2.out.1
                have rb02 : 0 ≤ R2 := by rw [hR2]; exact Int.emod_nonneg _ (by omega)
                have rb12 : R2 < (Y : Int) := by rw [hR2]; exact Int.emod_lt_of_pos _ (by omega)
                have hqb2 : 0 ≤ q2 ∧ q2 ≤ 4294967295 := by rw [HQ2.out, HYY.out]; exact kn_quo HD2.out
                obtain ⟨c02, c12⟩ := hqb2
                have hLF := kn_left (u := R1) (v := V0) (p := (q2) * (Y : Int)) (r := R2) (by rw [hR2, HYY.out]; exact HE2.out.2) rb02 (by omega)
                obtain ⟨PP2, hPP2⟩ : ∃ x, (q2) * (Y : Int) = x := ⟨_, rfl⟩
                rw [hPP2] at hLF
                obtain ⟨A2, hA2⟩ : ∃ x, IntKind.u64.wrap (R1 * 4294967296) = x := ⟨_, rfl⟩
                obtain ⟨B2, hB2⟩ : ∃ x, IntKind.u64.wrap (A2 + V0) = x := ⟨_, rfl⟩
                obtain ⟨C2, hC2⟩ : ∃ x, IntKind.u64.wrap PP2 = x := ⟨_, rfl⟩
                have hF2 : IntKind.u64.wrap (B2 - C2) = R2 := by
                  rw [← hB2, ← hA2, ← hC2]
                  simp only [IntKind.wrap_u64] at hLF ⊢
                  omega
                clear hLF hR2
                have wq3 : IntKind.u64.wrap (QA * 4294967296) = QA * 4294967296 := by simp only [IntKind.wrap_u64]; omega
                have wq4 : IntKind.u64.wrap (QA * 4294967296 + q2) = QA * 4294967296 + q2 := by simp only [IntKind.wrap_u64]; omega
                have HFF : Hid (((hi : Int) * 18446744073709551616 + (lo : Int)) / (y : Int) = QA * 4294967296 + q2 ∧ ((hi : Int) * 18446744073709551616 + (lo : Int)) % (y : Int) = R2 / 2 ^ s) := by
                  obtain ⟨z1, z2⟩ := kn_fin (y := y) (by omega) HEY.out HW.out
                  rw [HV1.out, HV0.out, ← HR1.out, ← HQA.out, ← HQ2.out] at z1
                  rw [HV1.out, HV0.out, ← HR1.out, ← HR2.out] at z2
                  rw [Int.natCast_ediv, Int.natCast_add, Int.natCast_mul] at z1
                  rw [Int.natCast_emod, Int.natCast_add, Int.natCast_mul] at z2
                  exact ⟨z1, z2⟩
                have HQE := Lib.hid hQA
                go_wp2_with fail
                go_ret2
                exact ⟨by rw [HFF.out.1, HFF.out.2, HQE.out]; rfl, 0, rfl⟩
        · go_wp2_with fail
          go_round
          case rel => exact ⟨q1 - 1, r + Y1, rfl, rfl, HL.out.1, by omega⟩
          case measure => simp [intOf]; omega
      · have HT := Lib.hid (kn_test HK.out)
        obtain ⟨b0, b1⟩ := HBD.out
        obtain ⟨P, hP⟩ : ∃ x, q1 * Y0 = x := ⟨_, rfl⟩
        rw [hP] at HT b0 b1
        have wP : IntKind.u64.wrap P = P := by simp only [IntKind.wrap_u64]; omega
        have wm : IntKind.u64.wrap (4294967296 * r) = 4294967296 * r := by simp only [IntKind.wrap_u64]; omega
        have wm2 : IntKind.u64.wrap (4294967296 * r + V1) = 4294967296 * r + V1 := by simp only [IntKind.wrap_u64]; omega
        by_cases hc : 4294967296 * r + V1 < P
        · have HL := Lib.hid (kn_less HD1.out HK.out (HT.out.1 (by omega)))
          have h1q := HL.out.2
          have wq1 : IntKind.u64.wrap (q1 - 1) = q1 - 1 := by simp only [IntKind.wrap_u64]; omega
          clear HT HBD
          by_cases hbr : 4294967296 ≤ r + Y1
          · have HE1 := Lib.hid (kn_done HD1.out HL.out.1 (kn_break HD1.out HL.out.1 hbr (by omega)))
            clear HL
            obtain ⟨R1, hR1⟩ : ∃ x, x = knN (U : Int) V1 % (Y : Int) := ⟨_, rfl⟩
            have HR1 := Lib.hid hR1
            have HQ1 : Hid ((q1 - 1) = knN (U : Int) V1 / (Y : Int)) := by show _ = _; rw [HYY.out]; exact HE1.out.1
            have rb01 : 0 ≤ R1 := by rw [hR1]; exact Int.emod_nonneg _ (by omega)
            have rb11 : R1 < (Y : Int) := by rw [hR1]; exact Int.emod_lt_of_pos _ (by omega)
            have hqb1 : 0 ≤ (q1 - 1) ∧ (q1 - 1) ≤ 4294967295 := by rw [HQ1.out, HYY.out]; exact kn_quo HD1.out
            obtain ⟨c01, c11⟩ := hqb1
            have hLF := kn_left (u := (U : Int)) (v := V1) (p := ((q1 - 1)) * (Y : Int)) (r := R1) (by rw [hR1, HYY.out]; exact HE1.out.2) rb01 (by omega)
            obtain ⟨PP1, hPP1⟩ : ∃ x, ((q1 - 1)) * (Y : Int) = x := ⟨_, rfl⟩
            rw [hPP1] at hLF
            obtain ⟨A1, hA1⟩ : ∃ x, IntKind.u64.wrap ((U : Int) * 4294967296) = x := ⟨_, rfl⟩
            obtain ⟨B1, hB1⟩ : ∃ x, IntKind.u64.wrap (A1 + V1) = x := ⟨_, rfl⟩
            obtain ⟨C1, hC1⟩ : ∃ x, IntKind.u64.wrap PP1 = x := ⟨_, rfl⟩
            have hF1 : IntKind.u64.wrap (B1 - C1) = R1 := by
              rw [← hB1, ← hA1, ← hC1]
              simp only [IntKind.wrap_u64] at hLF ⊢
              omega
            clear hLF hR1
            obtain ⟨QA, hQA⟩ : ∃ x, x = (q1 - 1) := ⟨_, rfl⟩
            have HQA : Hid (QA = knN (U : Int) V1 / (Y : Int)) := by show _ = _; rw [hQA]; exact HQ1.out
            have HD2 : Hid (KnD Y1 Y0 R1 V0) := by
              obtain ⟨a1, a2, b1, b2, -, -, -, -⟩ := HD1.out
              refine ⟨a1, a2, b1, b2, rb01, ?_, vb0, vb1⟩
              have := HYY.out
              unfold knY at this
              omega
            have HI2 := Lib.hid (knQ_init HD2.out)
            have w20 := HI2.out.1.q0
            have w21 := HI2.out.1.r0
            have w22 := HI2.out.2
            have w23 := HI2.out.1.q1
            obtain ⟨i2, hi2⟩ : ∃ x, R1 / Y1 = x := ⟨_, rfl⟩
            rw [hi2] at HI2 w20 w21 w22 w23
            have x21 : IntKind.u64.wrap i2 = i2 := by simp only [IntKind.wrap_u64]; omega
            obtain ⟨ip2, hip2⟩ : ∃ x, i2 * Y1 = x := ⟨_, rfl⟩
            have x20 : 0 ≤ ip2 := by rw [← hip2]; exact Int.mul_nonneg w20 (by omega)
            rw [hip2] at w21 w22
            have x22 : IntKind.u64.wrap ip2 = ip2 := by simp only [IntKind.wrap_u64]; omega
            have x23 : IntKind.u64.wrap (R1 - ip2) = R1 - ip2 := by simp only [IntKind.wrap_u64]; omega

            go_wp2_with fail
            go_loop [18, 16] (fun qv rv => ∃ q r : Int, qv = .int .u64 q ∧ rv = .int .u64 r ∧ KnQ Y1 Y0 R1 V0 q r ∧ r < 4294967296) (fun qv _ => (intOf qv).toNat)
            case atStart => exact ⟨i2, R1 - ip2, rfl, rfl, by have := HI2.out.1; rwa [hip2] at this, w22⟩
            case round =>
              obtain ⟨q2, r, rfl, rfl, hk, hr⟩ := hrel
              have HK := Lib.hid hk
              have k0 := hk.q0
              have k1 := hk.q1
              have k2 := hk.r0
              clear hk
              have HBD := Lib.hid (kn_bd HD2.out HK.out)
              have wr1 : IntKind.u64.wrap (r + Y1) = r + Y1 := by simp only [IntKind.wrap_u64]; omega
              by_cases hbig : 4294967296 ≤ q2
              · have HL := Lib.hid (kn_less HD2.out HK.out (kn_big HD2.out HK.out hbig))
                have h1q := HL.out.2
                have wq1 : IntKind.u64.wrap (q2 - 1) = q2 - 1 := by simp only [IntKind.wrap_u64]; omega
                by_cases hbr : 4294967296 ≤ r + Y1
                · have HE2 := Lib.hid (kn_done HD2.out HL.out.1 (kn_break HD2.out HL.out.1 hbr (by omega)))
                  clear HL
                  obtain ⟨R2, hR2⟩ : ∃ x, x = knN R1 V0 % (Y : Int) := ⟨_, rfl⟩
                  have HR2 := Lib.hid hR2
                  have HQ2 : Hid ((q2 - 1) = knN R1 V0 / (Y : Int)) := by show _ = _; rw [HYY.out]; exact HE2.out.1
                  have rb02 : 0 ≤ R2 := by rw [hR2]; exact Int.emod_nonneg _ (by omega)
                  have rb12 : R2 < (Y : Int) := by rw [hR2]; exact Int.emod_lt_of_pos _ (by omega)
                  have hqb2 : 0 ≤ (q2 - 1) ∧ (q2 - 1) ≤ 4294967295 := by rw [HQ2.out, HYY.out]; exact kn_quo HD2.out
                  obtain ⟨c02, c12⟩ := hqb2
                  have hLF := kn_left (u := R1) (v := V0) (p := ((q2 - 1)) * (Y : Int)) (r := R2) (by rw [hR2, HYY.out]; exact HE2.out.2) rb02 (by omega)
                  obtain ⟨PP2, hPP2⟩ : ∃ x, ((q2 - 1)) * (Y : Int) = x := ⟨_, rfl⟩
                  rw [hPP2] at hLF
                  obtain ⟨A2, hA2⟩ : ∃ x, IntKind.u64.wrap (R1 * 4294967296) = x := ⟨_, rfl⟩
                  obtain ⟨B2, hB2⟩ : ∃ x, IntKind.u64.wrap (A2 + V0) = x := ⟨_, rfl⟩
                  obtain ⟨C2, hC2⟩ : ∃ x, IntKind.u64.wrap PP2 = x := ⟨_, rfl⟩
                  have hF2 : IntKind.u64.wrap (B2 - C2) = R2 := by
                    rw [← hB2, ← hA2, ← hC2]
                    simp only [IntKind.wrap_u64] at hLF ⊢
                    omega
                  clear hLF hR2
                  have wq3 : IntKind.u64.wrap (QA * 4294967296) = QA * 4294967296 := by simp only [IntKind.wrap_u64]; omega
                  have wq4 : IntKind.u64.wrap (QA * 4294967296 + (q2 - 1)) = QA * 4294967296 + (q2 - 1) := by simp only [IntKind.wrap_u64]; omega
                  have HFF : Hid (((hi : Int) * 18446744073709551616 + (lo : Int)) / (y : Int) = QA * 4294967296 + (q2 - 1) ∧ ((hi : Int) * 18446744073709551616 + (lo : Int)) % (y : Int) = R2 / 2 ^ s) := by
                    obtain ⟨z1, z2⟩ := kn_fin (y := y) (by omega) HEY.out HW.out
                    rw [HV1.out, HV0.out, ← HR1.out, ← HQA.out, ← HQ2.out] at z1
                    rw [HV1.out, HV0.out, ← HR1.out, ← HR2.out] at z2
                    rw [Int.natCast_ediv, Int.natCast_add, Int.natCast_mul] at z1
                    rw [Int.natCast_emod, Int.natCast_add, Int.natCast_mul] at z2
                    exact ⟨z1, z2⟩
                  have HQE := Lib.hid hQA
                  go_wp2_with fail
                  go_ret2
                  exact ⟨by rw [HFF.out.1, HFF.out.2, HQE.out]; rfl, 0, rfl⟩
                · go_wp2_with fail
                  go_round
                  case rel => exact ⟨q2 - 1, r + Y1, rfl, rfl, HL.out.1, by omega⟩
                  case measure => simp [intOf]; omega
              · have HT := Lib.hid (kn_test HK.out)
                obtain ⟨b0, b1⟩ := HBD.out
                obtain ⟨P, hP⟩ : ∃ x, q2 * Y0 = x := ⟨_, rfl⟩
                rw [hP] at HT b0 b1
                have wP : IntKind.u64.wrap P = P := by simp only [IntKind.wrap_u64]; omega
                have wm : IntKind.u64.wrap (4294967296 * r) = 4294967296 * r := by simp only [IntKind.wrap_u64]; omega
                have wm2 : IntKind.u64.wrap (4294967296 * r + V0) = 4294967296 * r + V0 := by simp only [IntKind.wrap_u64]; omega
                by_cases hc : 4294967296 * r + V0 < P
                · have HL := Lib.hid (kn_less HD2.out HK.out (HT.out.1 (by omega)))
                  have h1q := HL.out.2
                  have wq1 : IntKind.u64.wrap (q2 - 1) = q2 - 1 := by simp only [IntKind.wrap_u64]; omega
                  clear HT HBD
                  by_cases hbr : 4294967296 ≤ r + Y1
                  · have HE2 := Lib.hid (kn_done HD2.out HL.out.1 (kn_break HD2.out HL.out.1 hbr (by omega)))
                    clear HL
                    obtain ⟨R2, hR2⟩ : ∃ x, x = knN R1 V0 % (Y : Int) := ⟨_, rfl⟩
                    have HR2 := Lib.hid hR2
                    have HQ2 : Hid ((q2 - 1) = knN R1 V0 / (Y : Int)) := by show _ = _; rw [HYY.out]; exact HE2.out.1
                    have rb02 : 0 ≤ R2 := by rw [hR2]; exact Int.emod_nonneg _ (by omega)
                    have rb12 : R2 < (Y : Int) := by rw [hR2]; exact Int.emod_lt_of_pos _ (by omega)
                    have hqb2 : 0 ≤ (q2 - 1) ∧ (q2 - 1) ≤ 4294967295 := by rw [HQ2.out, HYY.out]; exact kn_quo HD2.out
                    obtain ⟨c02, c12⟩ := hqb2
                    have hLF := kn_left (u := R1) (v := V0) (p := ((q2 - 1)) * (Y : Int)) (r := R2) (by rw [hR2, HYY.out]; exact HE2.out.2) rb02 (by omega)
                    obtain ⟨PP2, hPP2⟩ : ∃ x, ((q2 - 1)) * (Y : Int) = x := ⟨_, rfl⟩
                    rw [hPP2] at hLF
                    obtain ⟨A2, hA2⟩ : ∃ x, IntKind.u64.wrap (R1 * 4294967296) = x := ⟨_, rfl⟩
                    obtain ⟨B2, hB2⟩ : ∃ x, IntKind.u64.wrap (A2 + V0) = x := ⟨_, rfl⟩
                    obtain ⟨C2, hC2⟩ : ∃ x, IntKind.u64.wrap PP2 = x := ⟨_, rfl⟩
                    have hF2 : IntKind.u64.wrap (B2 - C2) = R2 := by
                      rw [← hB2, ← hA2, ← hC2]
                      simp only [IntKind.wrap_u64] at hLF ⊢
                      omega
                    clear hLF hR2
                    have wq3 : IntKind.u64.wrap (QA * 4294967296) = QA * 4294967296 := by simp only [IntKind.wrap_u64]; omega
                    have wq4 : IntKind.u64.wrap (QA * 4294967296 + (q2 - 1)) = QA * 4294967296 + (q2 - 1) := by simp only [IntKind.wrap_u64]; omega
                    have HFF : Hid (((hi : Int) * 18446744073709551616 + (lo : Int)) / (y : Int) = QA * 4294967296 + (q2 - 1) ∧ ((hi : Int) * 18446744073709551616 + (lo : Int)) % (y : Int) = R2 / 2 ^ s) := by
                      obtain ⟨z1, z2⟩ := kn_fin (y := y) (by omega) HEY.out HW.out
                      rw [HV1.out, HV0.out, ← HR1.out, ← HQA.out, ← HQ2.out] at z1
                      rw [HV1.out, HV0.out, ← HR1.out, ← HR2.out] at z2
                      rw [Int.natCast_ediv, Int.natCast_add, Int.natCast_mul] at z1
                      rw [Int.natCast_emod, Int.natCast_add, Int.natCast_mul] at z2
                      exact ⟨z1, z2⟩
                    have HQE := Lib.hid hQA
                    go_wp2_with fail
                    go_ret2
                    exact ⟨by rw [HFF.out.1, HFF.out.2, HQE.out]; rfl, 0, rfl⟩
                  · go_wp2_with fail
                    go_round
                    case rel => exact ⟨q2 - 1, r + Y1, rfl, rfl, HL.out.1, by omega⟩
                    case measure => simp [intOf]; omega
                · have HE2 := Lib.hid (kn_done HD2.out HK.out (fun h => hc (by have := HT.out.2 h; omega)))
                  clear HT HBD
                  obtain ⟨R2, hR2⟩ : ∃ x, x = knN R1 V0 % (Y : Int) := ⟨_, rfl⟩
                  have HR2 := Lib.hid hR2
                  have HQ2 : Hid (q2 = knN R1 V0 / (Y : Int)) := by show _ = _; rw [HYY.out]; exact HE2.out.1
                  have rb02 : 0 ≤ R2 := by rw [hR2]; exact Int.emod_nonneg _ (by omega)
                  have rb12 : R2 < (Y : Int) := by rw [hR2]; exact Int.emod_lt_of_pos _ (by omega)
                  have hqb2 : 0 ≤ q2 ∧ q2 ≤ 4294967295 := by rw [HQ2.out, HYY.out]; exact kn_quo HD2.out
                  obtain ⟨c02, c12⟩ := hqb2
                  have hLF := kn_left (u := R1) (v := V0) (p := (q2) * (Y : Int)) (r := R2) (by rw [hR2, HYY.out]; exact HE2.out.2) rb02 (by omega)
                  obtain ⟨PP2, hPP2⟩ : ∃ x, (q2) * (Y : Int) = x := ⟨_, rfl⟩
                  rw [hPP2] at hLF
                  obtain ⟨A2, hA2⟩ : ∃ x, IntKind.u64.wrap (R1 * 4294967296) = x := ⟨_, rfl⟩
                  obtain ⟨B2, hB2⟩ : ∃ x, IntKind.u64.wrap (A2 + V0) = x := ⟨_, rfl⟩
                  obtain ⟨C2, hC2⟩ : ∃ x, IntKind.u64.wrap PP2 = x := ⟨_, rfl⟩
                  have hF2 : IntKind.u64.wrap (B2 - C2) = R2 := by
                    rw [← hB2, ← hA2, ← hC2]
                    simp only [IntKind.wrap_u64] at hLF ⊢
                    omega
                  clear hLF hR2
                  have wq3 : IntKind.u64.wrap (QA * 4294967296) = QA * 4294967296 := by simp only [IntKind.wrap_u64]; omega
                  have wq4 : IntKind.u64.wrap (QA * 4294967296 + q2) = QA * 4294967296 + q2 := by simp only [IntKind.wrap_u64]; omega
                  have HFF : Hid (((hi : Int) * 18446744073709551616 + (lo : Int)) / (y : Int) = QA * 4294967296 + q2 ∧ ((hi : Int) * 18446744073709551616 + (lo : Int)) % (y : Int) = R2 / 2 ^ s) := by
                    obtain ⟨z1, z2⟩ := kn_fin (y := y) (by omega) HEY.out HW.out
                    rw [HV1.out, HV0.out, ← HR1.out, ← HQA.out, ← HQ2.out] at z1
                    rw [HV1.out, HV0.out, ← HR1.out, ← HR2.out] at z2
                    rw [Int.natCast_ediv, Int.natCast_add, Int.natCast_mul] at z1
                    rw [Int.natCast_emod, Int.natCast_add, Int.natCast_mul] at z2
                    exact ⟨z1, z2⟩
                  have HQE := Lib.hid hQA
                  go_wp2_with fail
                  go_ret2
                  exact ⟨by rw [HFF.out.1, HFF.out.2, HQE.out]; rfl, 0, rfl⟩
          · go_wp2_with fail
            go_round
            case rel => exact ⟨q1 - 1, r + Y1, rfl, rfl, HL.out.1, by omega⟩
            case measure => simp [intOf]; omega
        · have HE1 := Lib.hid (kn_done HD1.out HK.out (fun h => hc (by have := HT.out.2 h; omega)))
          clear HT HBD
          obtain ⟨R1, hR1⟩ : ∃ x, x = knN (U : Int) V1 % (Y : Int) := ⟨_, rfl⟩
          have HR1 := Lib.hid hR1
          have HQ1 : Hid (q1 = knN (U : Int) V1 / (Y : Int)) := by show _ = _; rw [HYY.out]; exact HE1.out.1
          have rb01 : 0 ≤ R1 := by rw [hR1]; exact Int.emod_nonneg _ (by omega)
          have rb11 : R1 < (Y : Int) := by rw [hR1]; exact Int.emod_lt_of_pos _ (by omega)
          have hqb1 : 0 ≤ q1 ∧ q1 ≤ 4294967295 := by rw [HQ1.out, HYY.out]; exact kn_quo HD1.out
          obtain ⟨c01, c11⟩ := hqb1
          have hLF := kn_left (u := (U : Int)) (v := V1) (p := (q1) * (Y : Int)) (r := R1) (by rw [hR1, HYY.out]; exact HE1.out.2) rb01 (by omega)
          obtain ⟨PP1, hPP1⟩ : ∃ x, (q1) * (Y : Int) = x := ⟨_, rfl⟩
          rw [hPP1] at hLF
          obtain ⟨A1, hA1⟩ : ∃ x, IntKind.u64.wrap ((U : Int) * 4294967296) = x := ⟨_, rfl⟩
          obtain ⟨B1, hB1⟩ : ∃ x, IntKind.u64.wrap (A1 + V1) = x := ⟨_, rfl⟩
          obtain ⟨C1, hC1⟩ : ∃ x, IntKind.u64.wrap PP1 = x := ⟨_, rfl⟩
          have hF1 : IntKind.u64.wrap (B1 - C1) = R1 := by
            rw [← hB1, ← hA1, ← hC1]
            simp only [IntKind.wrap_u64] at hLF ⊢
            omega
          clear hLF hR1
          obtain ⟨QA, hQA⟩ : ∃ x, x = q1 := ⟨_, rfl⟩
          have HQA : Hid (QA = knN (U : Int) V1 / (Y : Int)) := by show _ = _; rw [hQA]; exact HQ1.out
          have HD2 : Hid (KnD Y1 Y0 R1 V0) := by
            obtain ⟨a1, a2, b1, b2, -, -, -, -⟩ := HD1.out
            refine ⟨a1, a2, b1, b2, rb01, ?_, vb0, vb1⟩
            have := HYY.out
            unfold knY at this
            omega
          have HI2 := Lib.hid (knQ_init HD2.out)
          have w20 := HI2.out.1.q0
          have w21 := HI2.out.1.r0
          have w22 := HI2.out.2
          have w23 := HI2.out.1.q1
          obtain ⟨i2, hi2⟩ : ∃ x, R1 / Y1 = x := ⟨_, rfl⟩
          rw [hi2] at HI2 w20 w21 w22 w23
          have x21 : IntKind.u64.wrap i2 = i2 := by simp only [IntKind.wrap_u64]; omega
          obtain ⟨ip2, hip2⟩ : ∃ x, i2 * Y1 = x := ⟨_, rfl⟩
          have x20 : 0 ≤ ip2 := by rw [← hip2]; exact Int.mul_nonneg w20 (by omega)
          rw [hip2] at w21 w22
          have x22 : IntKind.u64.wrap ip2 = ip2 := by simp only [IntKind.wrap_u64]; omega
          have x23 : IntKind.u64.wrap (R1 - ip2) = R1 - ip2 := by simp only [IntKind.wrap_u64]; omega

          go_wp2_with fail
          go_loop [18, 16] (fun qv rv => ∃ q r : Int, qv = .int .u64 q ∧ rv = .int .u64 r ∧ KnQ Y1 Y0 R1 V0 q r ∧ r < 4294967296) (fun qv _ => (intOf qv).toNat)
          case atStart => exact ⟨i2, R1 - ip2, rfl, rfl, by have := HI2.out.1; rwa [hip2] at this, w22⟩
          case round =>
            obtain ⟨q2, r, rfl, rfl, hk, hr⟩ := hrel
            have HK := Lib.hid hk
            have k0 := hk.q0
            have k1 := hk.q1
            have k2 := hk.r0
            clear hk
            have HBD := Lib.hid (kn_bd HD2.out HK.out)
            have wr1 : IntKind.u64.wrap (r + Y1) = r + Y1 := by simp only [IntKind.wrap_u64]; omega
            by_cases hbig : 4294967296 ≤ q2
            · have HL := Lib.hid (kn_less HD2.out HK.out (kn_big HD2.out HK.out hbig))
              have h1q := HL.out.2
              have wq1 : IntKind.u64.wrap (q2 - 1) = q2 - 1 := by simp only [IntKind.wrap_u64]; omega
              by_cases hbr : 4294967296 ≤ r + Y1
              · have HE2 := Lib.hid (kn_done HD2.out HL.out.1 (kn_break HD2.out HL.out.1 hbr (by omega)))
                clear HL
                obtain ⟨R2, hR2⟩ : ∃ x, x = knN R1 V0 % (Y : Int) := ⟨_, rfl⟩
                have HR2 := Lib.hid hR2
                have HQ2 : Hid ((q2 - 1) = knN R1 V0 / (Y : Int)) := by show _ = _; rw [HYY.out]; exact HE2.out.1
                have rb02 : 0 ≤ R2 := by rw [hR2]; exact Int.emod_nonneg _ (by omega)
                have rb12 : R2 < (Y : Int) := by rw [hR2]; exact Int.emod_lt_of_pos _ (by omega)
                have hqb2 : 0 ≤ (q2 - 1) ∧ (q2 - 1) ≤ 4294967295 := by rw [HQ2.out, HYY.out]; exact kn_quo HD2.out
                obtain ⟨c02, c12⟩ := hqb2
                have hLF := kn_left (u := R1) (v := V0) (p := ((q2 - 1)) * (Y : Int)) (r := R2) (by rw [hR2, HYY.out]; exact HE2.out.2) rb02 (by omega)
                obtain ⟨PP2, hPP2⟩ : ∃ x, ((q2 - 1)) * (Y : Int) = x := ⟨_, rfl⟩
                rw [hPP2] at hLF
                obtain ⟨A2, hA2⟩ : ∃ x, IntKind.u64.wrap (R1 * 4294967296) = x := ⟨_, rfl⟩
                obtain ⟨B2, hB2⟩ : ∃ x, IntKind.u64.wrap (A2 + V0) = x := ⟨_, rfl⟩
                obtain ⟨C2, hC2⟩ : ∃ x, IntKind.u64.wrap PP2 = x := ⟨_, rfl⟩
                have hF2 : IntKind.u64.wrap (B2 - C2) = R2 := by
                  rw [← hB2, ← hA2, ← hC2]
                  simp only [IntKind.wrap_u64] at hLF ⊢
                  omega
                clear hLF hR2
                have wq3 : IntKind.u64.wrap (QA * 4294967296) = QA * 4294967296 := by simp only [IntKind.wrap_u64]; omega
                have wq4 : IntKind.u64.wrap (QA * 4294967296 + (q2 - 1)) = QA * 4294967296 + (q2 - 1) := by simp only [IntKind.wrap_u64]; omega
                have HFF : Hid (((hi : Int) * 18446744073709551616 + (lo : Int)) / (y : Int) = QA * 4294967296 + (q2 - 1) ∧ ((hi : Int) * 18446744073709551616 + (lo : Int)) % (y : Int) = R2 / 2 ^ s) := by
                  obtain ⟨z1, z2⟩ := kn_fin (y := y) (by omega) HEY.out HW.out
                  rw [HV1.out, HV0.out, ← HR1.out, ← HQA.out, ← HQ2.out] at z1
                  rw [HV1.out, HV0.out, ← HR1.out, ← HR2.out] at z2
                  rw [Int.natCast_ediv, Int.natCast_add, Int.natCast_mul] at z1
                  rw [Int.natCast_emod, Int.natCast_add, Int.natCast_mul] at z2
                  exact ⟨z1, z2⟩
                have HQE := Lib.hid hQA
                go_wp2_with fail
                go_ret2
                exact ⟨by rw [HFF.out.1, HFF.out.2, HQE.out]; rfl, 0, rfl⟩
              · go_wp2_with fail
                go_round
                case rel => exact ⟨q2 - 1, r + Y1, rfl, rfl, HL.out.1, by omega⟩
                case measure => simp [intOf]; omega
            · have HT := Lib.hid (kn_test HK.out)
              obtain ⟨b0, b1⟩ := HBD.out
              obtain ⟨P, hP⟩ : ∃ x, q2 * Y0 = x := ⟨_, rfl⟩
              rw [hP] at HT b0 b1
              have wP : IntKind.u64.wrap P = P := by simp only [IntKind.wrap_u64]; omega
              have wm : IntKind.u64.wrap (4294967296 * r) = 4294967296 * r := by simp only [IntKind.wrap_u64]; omega
              have wm2 : IntKind.u64.wrap (4294967296 * r + V0) = 4294967296 * r + V0 := by simp only [IntKind.wrap_u64]; omega
              by_cases hc : 4294967296 * r + V0 < P
              · have HL := Lib.hid (kn_less HD2.out HK.out (HT.out.1 (by omega)))
                have h1q := HL.out.2
                have wq1 : IntKind.u64.wrap (q2 - 1) = q2 - 1 := by simp only [IntKind.wrap_u64]; omega
                clear HT HBD
                by_cases hbr : 4294967296 ≤ r + Y1
                · have HE2 := Lib.hid (kn_done HD2.out HL.out.1 (kn_break HD2.out HL.out.1 hbr (by omega)))
                  clear HL
                  obtain ⟨R2, hR2⟩ : ∃ x, x = knN R1 V0 % (Y : Int) := ⟨_, rfl⟩
                  have HR2 := Lib.hid hR2
                  have HQ2 : Hid ((q2 - 1) = knN R1 V0 / (Y : Int)) := by show _ = _; rw [HYY.out]; exact HE2.out.1
                  have rb02 : 0 ≤ R2 := by rw [hR2]; exact Int.emod_nonneg _ (by omega)
                  have rb12 : R2 < (Y : Int) := by rw [hR2]; exact Int.emod_lt_of_pos _ (by omega)
                  have hqb2 : 0 ≤ (q2 - 1) ∧ (q2 - 1) ≤ 4294967295 := by rw [HQ2.out, HYY.out]; exact kn_quo HD2.out
                  obtain ⟨c02, c12⟩ := hqb2
                  have hLF := kn_left (u := R1) (v := V0) (p := ((q2 - 1)) * (Y : Int)) (r := R2) (by rw [hR2, HYY.out]; exact HE2.out.2) rb02 (by omega)
                  obtain ⟨PP2, hPP2⟩ : ∃ x, ((q2 - 1)) * (Y : Int) = x := ⟨_, rfl⟩
                  rw [hPP2] at hLF
                  obtain ⟨A2, hA2⟩ : ∃ x, IntKind.u64.wrap (R1 * 4294967296) = x := ⟨_, rfl⟩
                  obtain ⟨B2, hB2⟩ : ∃ x, IntKind.u64.wrap (A2 + V0) = x := ⟨_, rfl⟩
                  obtain ⟨C2, hC2⟩ : ∃ x, IntKind.u64.wrap PP2 = x := ⟨_, rfl⟩
                  have hF2 : IntKind.u64.wrap (B2 - C2) = R2 := by
                    rw [← hB2, ← hA2, ← hC2]
                    simp only [IntKind.wrap_u64] at hLF ⊢
                    omega
                  clear hLF hR2
                  have wq3 : IntKind.u64.wrap (QA * 4294967296) = QA * 4294967296 := by simp only [IntKind.wrap_u64]; omega
                  have wq4 : IntKind.u64.wrap (QA * 4294967296 + (q2 - 1)) = QA * 4294967296 + (q2 - 1) := by simp only [IntKind.wrap_u64]; omega
                  have HFF : Hid (((hi : Int) * 18446744073709551616 + (lo : Int)) / (y : Int) = QA * 4294967296 + (q2 - 1) ∧ ((hi : Int) * 18446744073709551616 + (lo : Int)) % (y : Int) = R2 / 2 ^ s) := by
                    obtain ⟨z1, z2⟩ := kn_fin (y := y) (by omega) HEY.out HW.out
                    rw [HV1.out, HV0.out, ← HR1.out, ← HQA.out, ← HQ2.out] at z1
                    rw [HV1.out, HV0.out, ← HR1.out, ← HR2.out] at z2
                    rw [Int.natCast_ediv, Int.natCast_add, Int.natCast_mul] at z1
                    rw [Int.natCast_emod, Int.natCast_add, Int.natCast_mul] at z2
                    exact ⟨z1, z2⟩
                  have HQE := Lib.hid hQA
                  go_wp2_with fail
                  go_ret2
                  exact ⟨by rw [HFF.out.1, HFF.out.2, HQE.out]; rfl, 0, rfl⟩
                · go_wp2_with fail
                  go_round
                  case rel => exact ⟨q2 - 1, r + Y1, rfl, rfl, HL.out.1, by omega⟩
                  case measure => simp [intOf]; omega
              · have HE2 := Lib.hid (kn_done HD2.out HK.out (fun h => hc (by have := HT.out.2 h; omega)))
                clear HT HBD
                obtain ⟨R2, hR2⟩ : ∃ x, x = knN R1 V0 % (Y : Int) := ⟨_, rfl⟩
                have HR2 := Lib.hid hR2
                have HQ2 : Hid (q2 = knN R1 V0 / (Y : Int)) := by show _ = _; rw [HYY.out]; exact HE2.out.1
                have rb02 : 0 ≤ R2 := by rw [hR2]; exact Int.emod_nonneg _ (by omega)
                have rb12 : R2 < (Y : Int) := by rw [hR2]; exact Int.emod_lt_of_pos _ (by omega)
                have hqb2 : 0 ≤ q2 ∧ q2 ≤ 4294967295 := by rw [HQ2.out, HYY.out]; exact kn_quo HD2.out
                obtain ⟨c02, c12⟩ := hqb2
                have hLF := kn_left (u := R1) (v := V0) (p := (q2) * (Y : Int)) (r := R2) (by rw [hR2, HYY.out]; exact HE2.out.2) rb02 (by omega)
                obtain ⟨PP2, hPP2⟩ : ∃ x, (q2) * (Y : Int) = x := ⟨_, rfl⟩
                rw [hPP2] at hLF
                obtain ⟨A2, hA2⟩ : ∃ x, IntKind.u64.wrap (R1 * 4294967296) = x := ⟨_, rfl⟩
                obtain ⟨B2, hB2⟩ : ∃ x, IntKind.u64.wrap (A2 + V0) = x := ⟨_, rfl⟩
                obtain ⟨C2, hC2⟩ : ∃ x, IntKind.u64.wrap PP2 = x := ⟨_, rfl⟩
                have hF2 : IntKind.u64.wrap (B2 - C2) = R2 := by
                  rw [← hB2, ← hA2, ← hC2]
                  simp only [IntKind.wrap_u64] at hLF ⊢
                  omega
                clear hLF hR2
                have wq3 : IntKind.u64.wrap (QA * 4294967296) = QA * 4294967296 := by simp only [IntKind.wrap_u64]; omega
                have wq4 : IntKind.u64.wrap (QA * 4294967296 + q2) = QA * 4294967296 + q2 := by simp only [IntKind.wrap_u64]; omega
                have HFF : Hid (((hi : Int) * 18446744073709551616 + (lo : Int)) / (y : Int) = QA * 4294967296 + q2 ∧ ((hi : Int) * 18446744073709551616 + (lo : Int)) % (y : Int) = R2 / 2 ^ s) := by
                  obtain ⟨z1, z2⟩ := kn_fin (y := y) (by omega) HEY.out HW.out
                  rw [HV1.out, HV0.out, ← HR1.out, ← HQA.out, ← HQ2.out] at z1
                  rw [HV1.out, HV0.out, ← HR1.out, ← HR2.out] at z2
                  rw [Int.natCast_ediv, Int.natCast_add, Int.natCast_mul] at z1
                  rw [Int.natCast_emod, Int.natCast_add, Int.natCast_mul] at z2
                  exact ⟨z1, z2⟩
                have HQE := Lib.hid hQA
                go_wp2_with fail
                go_ret2
                exact ⟨by rw [HFF.out.1, HFF.out.2, HQE.out]; rfl, 0, rfl⟩
end Go.Proofs.YtnpigefbdadjfaaDoor
