/- The walk of the law FnKnownGraphs. -/
import Derived.Test.YtijmfienaoeboaaKgP
import Derived.Test.YtijmfienaoeboaaR8c
import Derived.Test.YtijmfienaoeboaaBk
namespace Go.Proofs.Ytijmfienaoeboaa
open Go Go.RowKit
set_option linter.unusedVariables false

theorem rdv_keepK {w w' : World} {v : Value} {l : List Value} (h : RdV (· < w.heap.size) w v l) (hb : Below w.heap.size w w') : RdV (· < w'.heap.size) w' v l := by
  obtain ⟨A, n, c, e, hn, h1, h2, h3⟩ := h.keep hb
  refine ⟨A, n, c, e, hn, h1, h2, fun h0 => ?_⟩
  obtain ⟨b, o, ea, hK, hlt, hc⟩ := h3 h0
  exact ⟨b, o, ea, hlt, hlt, hc⟩
theorem bytes_take (L : List UInt8) (k : Nat) (h : k < L.length) : L.take (k + 1) = L.take k ++ [L[k]] := List.take_succ_eq_append_getElem h
theorem bit_or {L : List UInt8} (hb : inR 48 49 L = true) (k : Nat) (h : k < L.length) : L[k] = 48 ∨ L[k] = 49 := by
  unfold inR at hb
  rw [List.all_eq_true] at hb
  have := of_decide_eq_true (hb _ (List.getElem_mem h))
  rcases (show L[k].toNat = 48 ∨ L[k].toNat = 49 from by omega) with h | h
  · exact .inl (UInt8.toNat_inj.1 (by rw [h]; rfl))
  · exact .inr (UInt8.toNat_inj.1 (by rw [h]; rfl))
/-- What a loop over the bits has found. -/
def Fnd2 (s : Int × Bool) (f r : Value) : Prop := f = .bool s.2 ∧ r = .int .i64 s.1

set_option maxHeartbeats 4000000 in
set_option maxRecDepth 100000 in
theorem law_FnKnownGraphs (v0 : Value) (l0 : List Value) (k0 : ∀ x ∈ l0, ∃ y : Int, x = .int .u8 y ∧ 0 ≤ y ∧ y ≤ 255) (v1 : Value) (l1 : List Value) (k1 : ∀ x ∈ l1, ∃ y : Int, x = .int .u8 y ∧ 0 ≤ y ∧ y ≤ 255) (w : World) (r0 : RdV (· < w.heap.size) w v0 l0) (r1 : RdV (· < w.heap.size) w v1 l1) :
    Calls Try.prog 13 #[v0, v1] w fun e w' => e = .returned (.bool true) ∧ Below w.heap.size w w' := by
  have HR0 := Lib.hid r0
  have HR1 := Lib.hid r1
  have HK0 := Lib.hid k0
  have HK1 := Lib.hid k1
  obtain ⟨A0, n0, c0, rfl, hn0, -⟩ := r0
  obtain ⟨A1, n1, c1, rfl, hn1, -⟩ := r1
  clear k0 k1 hn0 hn1
  have HL := Lib.hid (fun W => r8Long_any W A0 A1 n0 c0 n1 c1)
  by_cases hz : 48 < n0 ∨ 48 < n1
  · have hz' : (decide (48 < n0) || decide (48 < n1)) = true := by rcases hz with h | h <;> simp [h]
    rw [hz'] at HL
    clear hz hz'
    go_enter Try.func13, Try.ntmps13
    go_wp2_with fail
    refine (HL.out _).mono ?_; rintro e w1 ⟨rfl, q, rfl⟩
    go_wp2_with fail
    go_ret
    exact ⟨rfl, below_drewN (Below.refl _ _) q⟩
  · have hz' : (decide (48 < n0) || decide (48 < n1)) = false := by simp; omega
    rw [hz'] at HL
    clear hz hz'
    have HAT : Hid (∀ (k t : Nat), 2 ≤ t ∧ t ≤ 1000000 → ∃ a : Int, (0 ≤ a ∧ a < t) ∧ ∀ W, Below w.heap.size w W → Calls Try.prog 53 #[.slice A0 n0 c0, .int .i64 (k : Int), .int .i64 (t : Int)] W fun e w' => e = .returned (.int .i64 a) ∧ W = w') := by
      show ∀ k t, _
      intro k t ht
      have h0 : 0 ≤ r8N l0 k t ∧ r8N l0 k t < t := by
        unfold r8N
        split <;> (constructor <;> first | omega | exact Int.emod_nonneg _ (by omega) | exact Int.emod_lt_of_pos _ (by omega))
      refine ⟨r8N l0 k t, h0, fun W hb => ?_⟩
      exact (r8At_any W _ l0 k t ht (HR0.out.keep hb) HK0.out).mono fun e w' ⟨he, _, hw⟩ => ⟨he, hw⟩
    obtain ⟨a, ⟨a0, a1⟩, ha⟩ := HAT.out 0 4 (by decide)
    obtain ⟨d, ⟨d0, d1⟩, hd⟩ := HAT.out 1 5 (by decide)
    obtain ⟨y', ⟨y0, y1⟩, hy⟩ := HAT.out 2 8 (by decide)
    obtain ⟨y, rfl⟩ := Int.eq_ofNat_of_zero_le y0
    obtain ⟨x, ⟨x0, x1⟩, hx⟩ := HAT.out 3 (1 + y + 1) (by omega)
    rw [show ((1 + y + 1 : Nat) : Int) = 1 + (y : Int) + 1 from by omega] at hx x1
    have HA : Hid (∀ W, Below w.heap.size w W → Calls Try.prog 53 #[.slice A0 n0 c0, .int .i64 0, .int .i64 4] W fun e w' => e = .returned (.int .i64 a) ∧ W = w') := ha
    have HD : Hid (∀ W, Below w.heap.size w W → Calls Try.prog 53 #[.slice A0 n0 c0, .int .i64 1, .int .i64 5] W fun e w' => e = .returned (.int .i64 d) ∧ W = w') := hd
    have HY : Hid (∀ W, Below w.heap.size w W → Calls Try.prog 53 #[.slice A0 n0 c0, .int .i64 2, .int .i64 8] W fun e w' => e = .returned (.int .i64 (y : Int)) ∧ W = w') := hy
    have HX : Hid (∀ W, Below w.heap.size w W → Calls Try.prog 53 #[.slice A0 n0 c0, .int .i64 3, .int .i64 (1 + (y : Int) + 1)] W fun e w' => e = .returned (.int .i64 x) ∧ W = w') := hx
    clear ha hd hy hx HAT y0
    obtain ⟨b, hbe⟩ : ∃ b, b = a + d := ⟨_, rfl⟩
    have hok : rgOk a b = true := decide_eq_true ⟨by omega, by omega⟩
    have hsk : sgOk (1 + (y : Int)) = true := decide_eq_true (by omega)
    have HRG := Lib.hid (fun W => runGraph_impl W a b)
    have HSG := Lib.hid (fun W => sumGraph_impl W (1 + (y : Int)))
    rw [hok] at HRG
    rw [hsk] at HSG
    have G1 := Lib.hid (rg_isG a b hok).1
    have G2 := Lib.hid (sg_isG (1 + (y : Int)) hsk).1
    have A1' := Lib.hid (fun L h hb => rg_allowed a b hok L h hb)
    have A2' := Lib.hid (fun L h hb => sg_allowed (1 + (y : Int)) x hsk (by omega) L h hb)
    have HBE := Lib.hid hbe
    have b0 : 0 ≤ b := by omega
    have b1 : b ≤ 8 := by omega
    have wab : a + d = b := hbe.symm
    clear hok hsk hbe
    generalize rgG a b = g at *
    generalize sgG (1 + (y : Int)) = h at *
    go_enter Try.func13, Try.ntmps13
    go_wp2_with fail
    refine (HL.out _).mono ?_; rintro e w1 ⟨rfl, q, rfl⟩
    have B1 : Hid (Below w.heap.size w (w.drewN q)) := below_drewN (Below.refl _ _) q
    go_wp2_with fail
    refine (HA.out _ B1.out).mono ?_; rintro e w' ⟨rfl, rfl⟩
    go_wp2_with fail
    refine (HD.out _ B1.out).mono ?_; rintro e w' ⟨rfl, rfl⟩
    go_wp2_with fail
    refine (HRG.out _).mono ?_; rintro e w2 ⟨gv, gus, rfl, hg, hb2⟩
    have B2 := Lib.hid (B1.out.trans (hb2.mono B1.out.size))
    have hgr := hg.rdg
    obtain ⟨Ag, ng, cg, rfl⟩ := rdg_sh hgr
    have R2 := Lib.hid hgr
    clear hgr
    clear hg hb2 B1
    obtain ⟨w3, hw3⟩ : ∃ w3, w3 = w2.alloc (.cells #[.slice Ag ng cg] 60) := ⟨_, rfl⟩
    have HW3 := Lib.hid hw3
    have kb : Below w2.heap.size w2 w3 := by rw [hw3]; exact (Below.refl _ _).alloc (Nat.le_refl _) _
    have X3 : Hid (Bk w3 w2.heap.size [.slice Ag ng cg]) := by show Bk _ _ _; rw [hw3]; exact Bk.new w2 [.slice Ag ng cg] _ _ rfl
    have B3 := Lib.hid (B2.out.trans (kb.mono B2.out.size))
    have R3 := Lib.hid (R2.out.keep kb)
    clear kb hw3 B2 R2
    go_wp2_with fail
    rw [← HW3.out]
    refine (r8Bits_any _ _ _ 12 (by decide) (rdv_keepK HR1.out B3.out) HK1.out).mono ?_; rintro e w4 ⟨L, rfl, ⟨hL1, hL2⟩, hb4⟩
    have B4 := Lib.hid (B3.out.trans (hb4.mono B3.out.size))
    have R4 := Lib.hid (R3.out.keep hb4)
    have X4 := Lib.hid (X3.out.keep hb4)
    have HL2 := Lib.hid hL2
    have F1 := Lib.hid (A1'.out L hL1 hL2)
    have F2 := Lib.hid (A2'.out L hL1 hL2)
    clear hb4 B3 R3 X3 hL2 HW3 A1' A2'
    obtain ⟨X, hX⟩ : ∃ X : ByteArray, X = ⟨L.toArray⟩ := ⟨_, rfl⟩
    rw [← hX]
    have hXs : X.size = L.length := by rw [hX]; simp [ByteArray.size]
    have hXl : X.data.toList = L := by rw [hX]
    have HXS := Lib.hid hXs
    have HXL := Lib.hid hXl
    have HXC : Hid (∀ k (h1 : k < X.size) (h2 : k < L.length), X[k] = L[k]) := by
      show ∀ k h1 h2, _
      subst hX
      intro k h1 h2
      rfl
    have hX12 : X.size ≤ 12 := by omega
    clear hX hXs hXl hL1
    go_wp2_with fail
    go_loop [10, 11, 12] (fun f r i => ∃ k : Nat, k ≤ X.size ∧ i = .int .i64 k ∧ Fnd2 (fr a b (L.take k) (0, true)) f r) (fun _ _ i => X.size - (intOf i).toNat)
    case atStart => exact ⟨0, Nat.zero_le _, rfl, rfl, rfl⟩
    case round =>
      obtain ⟨k, hk, rfl, rfl, rfl⟩ := hrel
      by_cases hlt : k < X.size
      · have hkL : k < L.length := by have := HXS.out; omega
        have hc := HXC.out k hlt hkL
        have hs := fr_snoc a b (L.take k) L[k] (0, true)
        rw [← bytes_take L k hkL] at hs
        have hbd := fr_bd a b (L.take k) (0, true) (by decide)
        have hlen : (L.take k).length ≤ 12 := by rw [List.length_take]; omega
        obtain ⟨f1, f2⟩ := hbd
        simp only [Int.zero_add] at f2
        have hbit := bit_or HL2.out k hkL
        have hk0 : (0 : Int) ≤ (k : Int) := by omega
        have hk1 : (k : Int) < (X.size : Int) := by omega
        obtain ⟨⟨ru, fi⟩, hrf⟩ : ∃ p, fr a b (L.take k) (0, true) = p := ⟨_, rfl⟩
        rw [hrf] at hs f1 f2 ⊢
        have ru0 : 0 ≤ ru := f1
        have ru1 : ru ≤ 12 := by have : ru ≤ ((L.take k).length : Int) := f2; omega
        clear hrf f1 f2 hlen
        rcases hbit with hb | hb
        · rw [hb, if_pos rfl] at hs
          have s1 : (X[k].toNat : Int) = 48 := by rw [hc, hb]; rfl
          have HS := Lib.hid hs
          clear hb hs hc
          by_cases hle : ru + 1 ≤ b
          · have e1 : decide (ru + 1 ≤ b) = true := decide_eq_true hle
            cases fi
            all_goals
              go_wp2_with fail
              go_round
              case rel => exact ⟨k + 1, by omega, by go_num, by rw [HS.out]; simp [hle], by rw [HS.out]⟩
              case measure => simp [intOf]; omega
          · have e1 : decide (ru + 1 ≤ b) = false := decide_eq_false hle
            cases fi
            all_goals
              go_wp2_with fail
              go_round
              case rel => exact ⟨k + 1, by omega, by go_num, by rw [HS.out]; simp [hle], by rw [HS.out]⟩
              case measure => simp [intOf]; omega
        · rw [hb, if_neg (by decide)] at hs
          have s1 : (X[k].toNat : Int) = 49 := by rw [hc, hb]; rfl
          have HS := Lib.hid hs
          clear hb hs hc
          by_cases hle : a ≤ ru
          · have e1 : decide (a ≤ ru) = true := decide_eq_true hle
            cases fi
            all_goals
              go_wp2_with fail
              go_round
              case rel => exact ⟨k + 1, by omega, by go_num, by rw [HS.out]; simp [hle], by rw [HS.out]⟩
              case measure => simp [intOf]; omega
          · have e1 : decide (a ≤ ru) = false := decide_eq_false hle
            cases fi
            all_goals
              go_wp2_with fail
              go_round
              case rel => exact ⟨k + 1, by omega, by go_num, by rw [HS.out]; simp [hle], by rw [HS.out]⟩
              case measure => simp [intOf]; omega
      · have hkL : L.take k = L := List.take_of_length_le (by have := HXS.out; omega)
        rw [hkL]
        clear hkL
        obtain ⟨⟨ru, fi⟩, hrf⟩ : ∃ p, fr a b L (0, true) = p := ⟨_, rfl⟩
        rw [hrf] at F1 ⊢
        have E1 : Hid (sbOk g 0 L = fi) := F1
        clear hrf F1
        go_wp2_with fail
        refine (HY.out _ B4.out).mono ?_; rintro e w' ⟨rfl, rfl⟩
        go_wp2_with fail
        refine (HSG.out _).mono ?_; rintro e w5 ⟨hv, hus, rfl, hh, hb5⟩
        have B5 := Lib.hid (B4.out.trans (hb5.mono B4.out.size))
        have R5 := Lib.hid (R4.out.keep hb5)
        have X5 := Lib.hid (X4.out.keep hb5)
        have hhr := hh.rdg
        obtain ⟨Ah, nh, ch, rfl⟩ := rdg_sh hhr
        have S5 := Lib.hid hhr
        clear hhr
        clear hh hb5 B4 R4 X4
        obtain ⟨w6, hw6⟩ : ∃ w6, w6 = w5.alloc (.cells #[.slice Ah nh ch] 60) := ⟨_, rfl⟩
        have HW6 := Lib.hid hw6
        have kb : Below w5.heap.size w5 w6 := by rw [hw6]; exact (Below.refl _ _).alloc (Nat.le_refl _) _
        have Y6 : Hid (Bk w6 w5.heap.size [.slice Ah nh ch]) := by show Bk _ _ _; rw [hw6]; exact Bk.new w5 [.slice Ah nh ch] _ _ rfl
        have B6 := Lib.hid (B5.out.trans (kb.mono B5.out.size))
        have R6 := Lib.hid (R5.out.keep kb)
        have S6 := Lib.hid (S5.out.keep kb)
        have X6 := Lib.hid (X5.out.keep kb)
        clear kb hw6 B5 R5 S5 X5
        go_wp2_with fail
        rw [← HW6.out]
        refine (HX.out _ B6.out).mono ?_; rintro e w' ⟨rfl, rfl⟩
        go_wp2_with fail
        go_loop [17, 18, 19] (fun r f i => ∃ k : Nat, k ≤ X.size ∧ i = .int .i64 k ∧ Fnd2 (fs (1 + (y : Int)) (L.take k) (x, true)) f r) (fun _ _ i => X.size - (intOf i).toNat)
        case atStart => exact ⟨0, Nat.zero_le _, rfl, rfl, rfl⟩
        case round =>
          obtain ⟨k, hk, rfl, rfl, rfl⟩ := hrel
          by_cases hlt : k < X.size
          · have hkL : k < L.length := by have := HXS.out; omega
            have hc := HXC.out k hlt hkL
            have hs := fs_snoc (1 + (y : Int)) (L.take k) L[k] (x, true)
            rw [← bytes_take L k hkL] at hs
            have hbd := fs_bd (1 + (y : Int)) (L.take k) (x, true)
            have hlen : (L.take k).length ≤ 12 := by rw [List.length_take]; omega
            obtain ⟨f1, f2⟩ := hbd
            have hbit := bit_or HL2.out k hkL
            have hk0 : (0 : Int) ≤ (k : Int) := by omega
            have hk1 : (k : Int) < (X.size : Int) := by omega
            obtain ⟨⟨su, fj⟩, hrf⟩ : ∃ p, fs (1 + (y : Int)) (L.take k) (x, true) = p := ⟨_, rfl⟩
            rw [hrf] at hs f1 f2 ⊢
            have su0 : -12 ≤ su := by have : x - ((L.take k).length : Int) ≤ su := f1; omega
            have su1 : su ≤ 30 := by have : su ≤ x + ((L.take k).length : Int) := f2; omega
            clear hrf f1 f2 hlen
            rcases hbit with hb | hb
            · rw [hb, if_neg (by decide)] at hs
              have s1 : (X[k].toNat : Int) = 48 := by rw [hc, hb]; rfl
              have HS := Lib.hid hs
              clear hb hs hc
              by_cases h1 : 0 ≤ su - 1
              · by_cases h2 : su - 1 ≤ 1 + (y : Int)
                · have e1 : decide (0 ≤ su - 1) = true := decide_eq_true h1
                  have e2 : decide (su - 1 ≤ 1 + (y : Int)) = true := decide_eq_true h2
                  cases fj
                  all_goals
                    go_wp2_with fail
                    go_round
                    case rel => exact ⟨k + 1, by omega, by go_num, by rw [HS.out]; first | rfl | (simp only [e1, e2]; first | done | rfl) | (simp; omega), by rw [HS.out]⟩
                    case measure => simp [intOf]; omega
                · have e1 : decide (0 ≤ su - 1) = true := decide_eq_true h1
                  have e2 : decide (su - 1 ≤ 1 + (y : Int)) = false := decide_eq_false h2
                  cases fj
                  all_goals
                    go_wp2_with fail
                    go_round
                    case rel => exact ⟨k + 1, by omega, by go_num, by rw [HS.out]; first | rfl | (simp only [e1, e2]; first | done | rfl) | (simp; omega), by rw [HS.out]⟩
                    case measure => simp [intOf]; omega
              · have e1 : decide (0 ≤ su - 1) = false := decide_eq_false h1
                cases fj
                all_goals
                  go_wp2_with fail
                  go_round
                  case rel => exact ⟨k + 1, by omega, by go_num, by rw [HS.out]; first | rfl | (simp only [e1]; first | done | rfl) | (simp; omega), by rw [HS.out]⟩
                  case measure => simp [intOf]; omega
            · rw [hb, if_pos rfl] at hs
              have s1 : (X[k].toNat : Int) = 49 := by rw [hc, hb]; rfl
              have HS := Lib.hid hs
              clear hb hs hc
              by_cases h1 : 0 ≤ su + 1
              · by_cases h2 : su + 1 ≤ 1 + (y : Int)
                · have e1 : decide (0 ≤ su + 1) = true := decide_eq_true h1
                  have e2 : decide (su + 1 ≤ 1 + (y : Int)) = true := decide_eq_true h2
                  cases fj
                  all_goals
                    go_wp2_with fail
                    go_round
                    case rel => exact ⟨k + 1, by omega, by go_num, by rw [HS.out]; first | rfl | (simp only [e1, e2]; first | done | rfl) | (simp; omega), by rw [HS.out]⟩
                    case measure => simp [intOf]; omega
                · have e1 : decide (0 ≤ su + 1) = true := decide_eq_true h1
                  have e2 : decide (su + 1 ≤ 1 + (y : Int)) = false := decide_eq_false h2
                  cases fj
                  all_goals
                    go_wp2_with fail
                    go_round
                    case rel => exact ⟨k + 1, by omega, by go_num, by rw [HS.out]; first | rfl | (simp only [e1, e2]; first | done | rfl) | (simp; omega), by rw [HS.out]⟩
                    case measure => simp [intOf]; omega
              · have e1 : decide (0 ≤ su + 1) = false := decide_eq_false h1
                cases fj
                all_goals
                  go_wp2_with fail
                  go_round
                  case rel => exact ⟨k + 1, by omega, by go_num, by rw [HS.out]; first | rfl | (simp only [e1]; first | done | rfl) | (simp; omega), by rw [HS.out]⟩
                  case measure => simp [intOf]; omega
          · have hkL : L.take k = L := List.take_of_length_le (by have := HXS.out; omega)
            rw [hkL]
            clear hkL
            obtain ⟨⟨su, fj⟩, hrf⟩ : ∃ p, fs (1 + (y : Int)) L (x, true) = p := ⟨_, rfl⟩
            rw [hrf] at F2 ⊢
            have E2 : Hid (sbOk h x L = fj) := F2
            clear hrf F2
            have I1 : Hid (∀ W, Below w6.heap.size w6 W → Calls Try.prog 57 #[.agg #[.slice Ag ng cg], .int .i64 0, .string X] W fun e w' => e = .returned (.bool fi) ∧ Below W.heap.size W w') := by
              show ∀ W, _
              intro W hb
              have hh := isAllowed_impl W (.slice Ag ng cg) g 0 X (R6.out.keep hb) (by unfold maxLen; omega)
              rwa [HXL.out, E1.out] at hh
            have I2 : Hid (∀ W, Below w6.heap.size w6 W → Calls Try.prog 57 #[.agg #[.slice Ah nh ch], .int .i64 x, .string X] W fun e w' => e = .returned (.bool fj) ∧ Below W.heap.size W w') := by
              show ∀ W, _
              intro W hb
              have hh := isAllowed_impl W (.slice Ah nh ch) h x X (S6.out.keep hb) (by unfold maxLen; omega)
              rwa [HXL.out, E2.out] at hh
            have V1 : Hid (∀ W, Below w6.heap.size w6 W → Calls Try.prog 58 #[.agg #[.slice Ag ng cg]] W fun e w' => e = .returned (.bool true) ∧ Below W.heap.size W w') := by
              show ∀ W, _
              intro W hb
              have hh := validGraph_impl W (.slice Ag ng cg) g (R6.out.keep hb)
              rwa [G1.out] at hh
            have V2 : Hid (∀ W, Below w6.heap.size w6 W → Calls Try.prog 58 #[.agg #[.slice Ah nh ch]] W fun e w' => e = .returned (.bool true) ∧ Below W.heap.size W w') := by
              show ∀ W, _
              intro W hb
              have hh := validGraph_impl W (.slice Ah nh ch) h (S6.out.keep hb)
              rwa [G2.out] at hh
            have C0 := Lib.hid (Below.refl w6.heap.size w6)
            clear E1 E2 R6 S6 G1 G2 HRG HSG
            cases fi <;> cases fj
            all_goals
              have q1 := (X6.out.keep C0.out).c 0 _ rfl
              go_wp2_with fail
              refine (I1.out _ C0.out).mono ?_; rintro e w7 ⟨rfl, hb7⟩
              have C7 := Lib.hid (C0.out.trans (hb7.mono C0.out.size))
              have q2 := (Y6.out.keep C7.out).c 0 _ rfl
              clear hb7 q1
              go_wp2_with fail
              refine (I2.out _ C7.out).mono ?_; rintro e w8 ⟨rfl, hb8⟩
              have C8 := Lib.hid (C7.out.trans (hb8.mono C7.out.size))
              have q1 := (X6.out.keep C8.out).c 0 _ rfl
              clear hb8 q2
              go_wp2_with fail
              refine (V1.out _ C8.out).mono ?_; rintro e w9 ⟨rfl, hb9⟩
              have C9 := Lib.hid (C8.out.trans (hb9.mono C8.out.size))
              have q2 := (Y6.out.keep C9.out).c 0 _ rfl
              clear hb9 q1
              go_wp2_with fail
              refine (V2.out _ C9.out).mono ?_; rintro e w10 ⟨rfl, hb10⟩
              have C10 := Lib.hid (C9.out.trans (hb10.mono C9.out.size))
              clear hb10 q2
              go_wp2_with fail
              go_ret
              exact ⟨rfl, B6.out.trans (C10.out.mono B6.out.size)⟩
end Go.Proofs.Ytijmfienaoeboaa
