/- The model's FillAt and BufferTime. -/
import Derived.Test.YtcihogbkfpcfjaaCln
import Derived.Test.YtcihogbkfpcfjaaInts
import Derived.Deep.QuietTactic
import Derived.BigQuiet
namespace Go.Proofs.Ytcihogbkfpcfjaa
open Go Go.RowKit
set_option linter.unusedVariables false


theorem btV_no {w r d f : Int} (h : tkB w = false ∨ tkB r = false ∨ dpB d = false ∨ flB d f = false) : btO w r d f = none := by
  unfold btO tkOk; rcases h with h | h | h | h <;> rw [h] <;> simp
theorem btV_yes {w r d f : Int} (h1 : tkB w = true) (h2 : tkB r = true) (h3 : dpB d = true) (h4 : flB d f = true) : btO w r d f = btT w r d f 0 := by
  unfold btO tkOk; rw [h1, h2, h3, h4]; rfl
theorem fa_no {w r f t : Int} (h : tkB w = false ∨ tkB r = false ∨ decide (0 ≤ f ∧ f ≤ 64) = false ∨ decide (0 ≤ t ∧ t ≤ 1000000) = false) : faV w r f t = 0 ∧ faS w r f t = false := by
  have e : faS w r f t = false := by unfold faS tkOk; rcases h with h | h | h | h <;> rw [h] <;> simp
  exact ⟨by unfold faV; rw [e]; rfl, e⟩
theorem fa_yes {w r f t : Int} (h1 : tkB w = true) (h2 : tkB r = true) (h3 : decide (0 ≤ f ∧ f ≤ 64) = true) (h4 : decide (0 ≤ t ∧ t ≤ 1000000) = true) : faV w r f t = fil w r f t ∧ faS w r f t = true := by
  have e : faS w r f t = true := by unfold faS tkOk; rw [h1, h2, h3, h4]; rfl
  exact ⟨by unfold faV; rw [e]; rfl, e⟩
theorem quo_bd {t w : Int} (h0 : 0 ≤ t) (h1 : t ≤ 1001000) (hw : 2 ≤ w) : 0 ≤ t / w ∧ t / w ≤ 1001000 := by
  have h2 : t / w ≤ t := Int.ediv_le_self w h0
  exact ⟨Int.ediv_nonneg h0 (by omega), by omega⟩
/-- What a search tells. -/
def ov (o : Option Int) : Int := o.getD 0
theorem tkB_is' {a : Int} (h : tkB a = true) : 2 ≤ a ∧ a ≤ 1000 := of_decide_eq_true h

theorem l07Fill_any (a b f t : Int) (w : World) (ha : 2 ≤ a ∧ a ≤ 1000) (hb : 2 ≤ b ∧ b ≤ 1000) (hf : 0 ≤ f ∧ f ≤ 1000) (ht : 0 ≤ t ∧ t ≤ 1001000) :
    Calls Try.prog 52 #[.int .i64 a, .int .i64 b, .int .i64 f, .int .i64 t] w fun e w' => e = .returned (.int .i64 (fil a b f t)) ∧ Below w.heap.size w w' := by
  have hv : fil a b f t = f + t / a - t / b := rfl
  rw [hv]
  clear hv
  obtain ⟨p0, p1⟩ := quo_bd ht.1 ht.2 ha.1
  obtain ⟨q0, q1⟩ := quo_bd ht.1 ht.2 hb.1
  obtain ⟨t0, t1⟩ := ht
  obtain ⟨a0, a1⟩ := ha
  obtain ⟨b0, b1⟩ := hb
  obtain ⟨f0, f1⟩ := hf
  have na : (a == 0) = false := beq_f (by omega)
  have nb : (b == 0) = false := beq_f (by omega)
  have n1 : 0 < a := by omega
  have n2 : 0 < b := by omega
  go_enter Try.func52, Try.ntmps52
  go_wp2_with fail
  go_quiet (fail)
  go_wp2_with fail
  go_ret
  exact ⟨rfl, below_drewN (Below.refl _ _) _⟩
theorem l00Min_two (a b : Int) (w : World) :
    Calls Try.prog 75 #[.int .i64 a, .int .i64 b] w fun e w' => e = .returned (.int .i64 (min a b)) ∧ w = w' := by
  by_cases h : a < b
  · have HE : Hid (min a b = a) := by show _ = _; omega
    go_enter Try.func75, Try.ntmps75
    go_wp2_with fail
    go_ret
    exact ⟨ret_int HE.out.symm, rfl⟩
  · have HE : Hid (min a b = b) := by show _ = _; omega
    go_enter Try.func75, Try.ntmps75
    go_wp2_with fail
    go_ret
    exact ⟨ret_int HE.out.symm, rfl⟩

set_option maxRecDepth 100000 in
set_option maxHeartbeats 1000000 in
theorem l07Time_any (a b d f : Int) (w : World) (ha : 2 ≤ a ∧ a ≤ 1000) (hb : 2 ≤ b ∧ b ≤ 1000) (hd : 1 ≤ d ∧ d ≤ 64) (hf : 0 ≤ f ∧ f ≤ d) :
    Calls Try.prog 55 #[.int .i64 a, .int .i64 b, .int .i64 d, .int .i64 f] w fun e w' => e = .returned (.tuple #[.int .i64 (ov (btT a b d f 0)), .bool (btT a b d f 0).isSome]) ∧ Below w.heap.size w w' := by
  have HMIN := Lib.hid (fun x y W => l00Min_two x y W)
  have HFIL := Lib.hid (fun t W => l07Fill_any a b f t W ha hb (by omega))
  have HIN := Lib.hid (fun x W => in_any x 0 d W)
  have HGT := Lib.hid (fun t => @nxT_gt a b t (by omega) (by omega))
  have HLE := Lib.hid (fun t => And.intro (@mb_le t a (by omega)) (@mb_le t b (by omega)))
  have HGG := Lib.hid (fun t => And.intro (@mb_gt t a (by omega)) (@mb_gt t b (by omega)))
  have HLATE := Lib.hid (fun t h => @btT_late a b d f t h)
  have HON := Lib.hid (fun t => @btT_on a b d f t (by omega) (by omega))
  have HOUT := Lib.hid (fun t => @btT_out a b d f t (by omega) (by omega))
  have HKA := Lib.hid (fun t u => @mb_keep t u a (by omega))
  have HKB := Lib.hid (fun t u => @mb_keep t u b (by omega))
  have HAA := Lib.hid (fun t => @mb_at t a (by omega))
  have HAB := Lib.hid (fun t => @mb_at t b (by omega))
  have HNX : Hid (∀ t, nxT a b t = min (mb t a) (mb t b)) := by show ∀ _, _; intro t; rfl
  have HS : Hid (mb 0 a = a ∧ mb 0 b = b) := by
    show _ ∧ _
    unfold mb
    simp
  obtain ⟨V, hV⟩ : ∃ V, V = btT a b d f 0 := ⟨_, rfl⟩
  have HV := Lib.hid hV
  rw [← hV]
  clear hV hd hf
  obtain ⟨a0, a1⟩ := ha
  obtain ⟨b0, b1⟩ := hb
  go_enter Try.func55, Try.ntmps55
  go_wp2_with fail
  go_loopw [10, 11] (fun x y wr => ∃ t : Int, (0 ≤ t ∧ t ≤ 1000000) ∧ x = .int .i64 (mb t a) ∧ y = .int .i64 (mb t b) ∧ V = btT a b d f t ∧ Below w.heap.size w wr) (fun x y _ => (2100000 - intOf x - intOf y).toNat)
  case atStart => exact ⟨0, ⟨by omega, by omega⟩, by rw [HS.out.1], by rw [HS.out.2], HV.out, Below.refl _ _⟩
  case round =>
    obtain ⟨t, ⟨t0, t1⟩, rfl, rfl, hv, hb⟩ := hrel
    have HB := Lib.hid hb
    have HVt := Lib.hid hv
    obtain ⟨l1, l2⟩ := HLE.out t
    obtain ⟨g1, g2⟩ := HGG.out t
    have hgt := HGT.out t
    have HLt := Lib.hid (HLATE.out t)
    have HOt := Lib.hid (HON.out t)
    have HUt := Lib.hid (HOUT.out t)
    have hnx := HNX.out t
    obtain ⟨T, hT⟩ : ∃ T, T = nxT a b t := ⟨_, rfl⟩
    rw [← hT] at hgt HLt HOt HUt hnx
    have HK1 := Lib.hid (HKA.out t T (by omega))
    have HK2 := Lib.hid (HKB.out t T (by omega))
    have HA1 := Lib.hid (HAA.out t)
    have HA2 := Lib.hid (HAB.out t)
    clear hb hv HLE HGG HGT HLATE HON HOUT HNX HKA HKB HAA HAB HV HS hT
    obtain ⟨A, hA⟩ : ∃ A, A = mb t a := ⟨_, rfl⟩
    obtain ⟨B, hB⟩ : ∃ B, B = mb t b := ⟨_, rfl⟩
    rw [← hA] at l1 g1 hnx HK1 HA1 ⊢
    rw [← hB] at l2 g2 hnx HK2 HA2 ⊢
    clear hA hB
    have HMM := Lib.hid (HMIN.out A B)
    rw [← hnx] at HMM
    have HNX := Lib.hid hnx
    have hTA : T ≤ A := by omega
    have hTB : T ≤ B := by omega
    have hTT : T ≤ 1001000 := by omega
    clear hnx
    by_cases hlate : 1000000 < T
    · have HX : Hid (V = none) := by show _ = _; rw [HVt.out]; exact HLt.out hlate
      clear HLt HOt HUt HVt HFIL HIN HMIN HK1 HK2 HA1 HA2
      have t9 : decide (T ≤ 1000000) = false := decide_eq_false (by omega)
      go_wp2_with fail
      refine (HMM.out _).mono ?_; rintro e w' ⟨rfl, rfl⟩
      go_wp2_with fail
      go_ret2
      exact ⟨by rw [HX.out]; rfl, HB.out⟩
    · have t9 : T ≤ 1000000 := by omega
      have HF := Lib.hid (fun W => HFIL.out T W (by omega))
      have HI := Lib.hid (fun W => HIN.out (fil a b f T) W)
      by_cases hin : 0 ≤ fil a b f T ∧ fil a b f T ≤ d
      · have HVT : Hid (V = btT a b d f T) := by show _ = _; rw [HVt.out]; exact HOt.out t9 hin
        rw [decide_eq_true hin] at HI
        clear HLt HOt HUt HVt HFIL HIN HMIN hlate hin
        generalize fil a b f T = X at *
        by_cases hA : A = T
        · have HMA : Hid (mb T a = A + a) := by show _ = _; rw [← HA1.out, hA]
          have s1 : (A == T) = true := beq_t hA
          by_cases hB : B = T
          · have HMB : Hid (mb T b = B + b) := by show _ = _; rw [← HA2.out, hB]
            have s2 : (B == T) = true := beq_t hB
            clear HK1 HK2 HA1 HA2 hA hB
            go_wp2_with fail
            refine (HMM.out _).mono ?_; rintro e w' ⟨rfl, rfl⟩
            go_wp2_with fail
            refine (HMM.out _).mono ?_; rintro e w' ⟨rfl, rfl⟩
            go_wp2_with fail
            refine (HF.out _).mono ?_; rintro e w2 ⟨rfl, hb2⟩
            have HB2 := Lib.hid (HB.out.trans (hb2.mono HB.out.size))
            clear hb2
            go_wp2_with fail
            refine (HI.out _).mono ?_; rintro e w' ⟨rfl, rfl⟩
            go_wp2_with fail
            go_roundw
            case rel => exact ⟨T, ⟨by omega, t9⟩, by rw [HMA.out], by rw [HMB.out], HVT.out, HB2.out⟩
            case measure => simp [intOf]; omega
          · have HMB : Hid (mb T b = B) := by show _ = _; exact HK2.out (by omega)
            have s2 : (B == T) = false := beq_f hB
            clear HK1 HK2 HA1 HA2 hA hB
            go_wp2_with fail
            refine (HMM.out _).mono ?_; rintro e w' ⟨rfl, rfl⟩
            go_wp2_with fail
            refine (HMM.out _).mono ?_; rintro e w' ⟨rfl, rfl⟩
            go_wp2_with fail
            refine (HF.out _).mono ?_; rintro e w2 ⟨rfl, hb2⟩
            have HB2 := Lib.hid (HB.out.trans (hb2.mono HB.out.size))
            clear hb2
            go_wp2_with fail
            refine (HI.out _).mono ?_; rintro e w' ⟨rfl, rfl⟩
            go_wp2_with fail
            go_roundw
            case rel => exact ⟨T, ⟨by omega, t9⟩, by rw [HMA.out], by rw [HMB.out], HVT.out, HB2.out⟩
            case measure => simp [intOf]; omega
        · have HMA : Hid (mb T a = A) := by show _ = _; exact HK1.out (by omega)
          have s1 : (A == T) = false := beq_f hA
          have hB : B = T := by have := HNX.out; omega
          have HMB : Hid (mb T b = B + b) := by show _ = _; rw [← HA2.out, hB]
          have s2 : (B == T) = true := beq_t hB
          clear HK1 HK2 HA1 HA2 hA hB
          go_wp2_with fail
          refine (HMM.out _).mono ?_; rintro e w' ⟨rfl, rfl⟩
          go_wp2_with fail
          refine (HMM.out _).mono ?_; rintro e w' ⟨rfl, rfl⟩
          go_wp2_with fail
          refine (HF.out _).mono ?_; rintro e w2 ⟨rfl, hb2⟩
          have HB2 := Lib.hid (HB.out.trans (hb2.mono HB.out.size))
          clear hb2
          go_wp2_with fail
          refine (HI.out _).mono ?_; rintro e w' ⟨rfl, rfl⟩
          go_wp2_with fail
          go_roundw
          case rel => exact ⟨T, ⟨by omega, t9⟩, by rw [HMA.out], by rw [HMB.out], HVT.out, HB2.out⟩
          case measure => simp [intOf]; omega
      · have HX : Hid (V = some T) := by show _ = _; rw [HVt.out]; exact HUt.out t9 hin
        rw [decide_eq_false hin] at HI
        clear HLt HOt HUt HVt HFIL HIN HMIN HK1 HK2 HA1 HA2 hin hlate
        generalize fil a b f T = X at *
        go_wp2_with fail
        refine (HMM.out _).mono ?_; rintro e w' ⟨rfl, rfl⟩
        go_wp2_with fail
        refine (HMM.out _).mono ?_; rintro e w' ⟨rfl, rfl⟩
        go_wp2_with fail
        refine (HF.out _).mono ?_; rintro e w2 ⟨rfl, hb2⟩
        have HB2 := Lib.hid (HB.out.trans (hb2.mono HB.out.size))
        clear hb2
        go_wp2_with fail
        refine (HI.out _).mono ?_; rintro e w' ⟨rfl, rfl⟩
        go_wp2_with fail
        go_ret2
        exact ⟨by rw [HX.out]; rfl, HB2.out⟩
set_option maxRecDepth 100000 in
set_option maxHeartbeats 1000000 in
theorem bufTime_spec (a b d f : Int) (w : World) :
    Calls Try.prog 30 #[.int .i64 a, .int .i64 b, .int .i64 d, .int .i64 f] w fun e w' => e = .returned (.tuple #[.int .i64 (ov (btO a b d f)), .bool (btO a b d f).isSome]) ∧ Below w.heap.size w w' := by
  have HT0 := Lib.hid (l07Ticks_any a w)
  have HT1 := Lib.hid (l07Ticks_any b w)
  have HT2 := Lib.hid (show Calls Try.prog 42 #[.int .i64 d, .int .i64 1, .int .i64 64] w (fun e w' => e = .returned (.bool (dpB d)) ∧ w = w') from in_any d 1 64 w)
  have HT3 := Lib.hid (show Calls Try.prog 42 #[.int .i64 f, .int .i64 0, .int .i64 d] w (fun e w' => e = .returned (.bool (flB d f)) ∧ w = w') from in_any f 0 d w)
  cases g0 : tkB a
  · rw [btV_no (.inl g0)]
    rw [g0] at HT0
    clear g0 HT1 HT2 HT3
    go_enter Try.func30, Try.ntmps30
    go_wp2_with fail
    refine HT0.out.mono ?_; rintro e w' ⟨rfl, rfl⟩
    go_wp2_with fail
    go_ret2
    exact ⟨rfl, Below.refl _ _⟩
  · skip
    cases g1 : tkB b
    · rw [btV_no (.inr (.inl g1))]
      rw [g0] at HT0
      rw [g1] at HT1
      clear g0 g1 HT2 HT3
      go_enter Try.func30, Try.ntmps30
      go_wp2_with fail
      refine HT0.out.mono ?_; rintro e w' ⟨rfl, rfl⟩
      go_wp2_with fail
      refine HT1.out.mono ?_; rintro e w' ⟨rfl, rfl⟩
      go_wp2_with fail
      go_ret2
      exact ⟨rfl, Below.refl _ _⟩
    · skip
      cases g2 : dpB d
      · rw [btV_no (.inr (.inr (.inl g2)))]
        rw [g0] at HT0
        rw [g1] at HT1
        rw [g2] at HT2
        clear g0 g1 g2 HT3
        go_enter Try.func30, Try.ntmps30
        go_wp2_with fail
        refine HT0.out.mono ?_; rintro e w' ⟨rfl, rfl⟩
        go_wp2_with fail
        refine HT1.out.mono ?_; rintro e w' ⟨rfl, rfl⟩
        go_wp2_with fail
        refine HT2.out.mono ?_; rintro e w' ⟨rfl, rfl⟩
        go_wp2_with fail
        go_ret2
        exact ⟨rfl, Below.refl _ _⟩
      · skip
        cases g3 : flB d f
        · rw [btV_no (.inr (.inr (.inr g3)))]
          rw [g0] at HT0
          rw [g1] at HT1
          rw [g2] at HT2
          rw [g3] at HT3
          clear g0 g1 g2 g3
          go_enter Try.func30, Try.ntmps30
          go_wp2_with fail
          refine HT0.out.mono ?_; rintro e w' ⟨rfl, rfl⟩
          go_wp2_with fail
          refine HT1.out.mono ?_; rintro e w' ⟨rfl, rfl⟩
          go_wp2_with fail
          refine HT2.out.mono ?_; rintro e w' ⟨rfl, rfl⟩
          go_wp2_with fail
          refine HT3.out.mono ?_; rintro e w' ⟨rfl, rfl⟩
          go_wp2_with fail
          go_ret2
          exact ⟨rfl, Below.refl _ _⟩
        · skip
          rw [btV_yes g0 g1 g2 g3]
          have HT := Lib.hid (l07Time_any a b d f w (tkB_is g0) (tkB_is g1) (of_decide_eq_true g2) (of_decide_eq_true g3))
          generalize btT a b d f 0 = V at *
          rw [g0] at HT0
          rw [g1] at HT1
          rw [g2] at HT2
          rw [g3] at HT3
          clear g0 g1 g2 g3
          go_enter Try.func30, Try.ntmps30
          go_wp2_with fail
          refine HT0.out.mono ?_; rintro e w' ⟨rfl, rfl⟩
          go_wp2_with fail
          refine HT1.out.mono ?_; rintro e w' ⟨rfl, rfl⟩
          go_wp2_with fail
          refine HT2.out.mono ?_; rintro e w' ⟨rfl, rfl⟩
          go_wp2_with fail
          refine HT3.out.mono ?_; rintro e w' ⟨rfl, rfl⟩
          go_wp2_with fail
          refine HT.out.mono ?_; rintro e w2 ⟨rfl, hb2⟩
          have HB2 := Lib.hid hb2
          clear hb2
          go_wp2_with fail
          go_ret2
          exact ⟨rfl, HB2.out⟩
set_option maxRecDepth 100000 in
set_option maxHeartbeats 1000000 in
theorem fillAt_spec (a b f t : Int) (w : World) :
    Calls Try.prog 28 #[.int .i64 a, .int .i64 b, .int .i64 f, .int .i64 t] w fun e w' => e = .returned (.tuple #[.int .i64 (faV a b f t), .bool (faS a b f t)]) ∧ Below w.heap.size w w' := by
  have HT0 := Lib.hid (l07Ticks_any a w)
  have HT1 := Lib.hid (l07Ticks_any b w)
  have HT2 := Lib.hid (in_any f 0 64 w)
  have HT3 := Lib.hid (in_any t 0 1000000 w)
  cases g0 : tkB a
  · obtain ⟨e1, e2⟩ := fa_no (w := a) (r := b) (f := f) (t := t) (.inl g0); rw [e1, e2]; clear e1 e2
    rw [g0] at HT0
    clear g0 HT1 HT2 HT3
    go_enter Try.func28, Try.ntmps28
    go_wp2_with fail
    refine HT0.out.mono ?_; rintro e w' ⟨rfl, rfl⟩
    go_wp2_with fail
    go_ret2
    exact ⟨rfl, Below.refl _ _⟩
  · skip
    cases g1 : tkB b
    · obtain ⟨e1, e2⟩ := fa_no (w := a) (r := b) (f := f) (t := t) (.inr (.inl g1)); rw [e1, e2]; clear e1 e2
      rw [g0] at HT0
      rw [g1] at HT1
      clear g0 g1 HT2 HT3
      go_enter Try.func28, Try.ntmps28
      go_wp2_with fail
      refine HT0.out.mono ?_; rintro e w' ⟨rfl, rfl⟩
      go_wp2_with fail
      refine HT1.out.mono ?_; rintro e w' ⟨rfl, rfl⟩
      go_wp2_with fail
      go_ret2
      exact ⟨rfl, Below.refl _ _⟩
    · skip
      cases g2 : decide (0 ≤ f ∧ f ≤ 64)
      · obtain ⟨e1, e2⟩ := fa_no (w := a) (r := b) (f := f) (t := t) (.inr (.inr (.inl g2))); rw [e1, e2]; clear e1 e2
        rw [g0] at HT0
        rw [g1] at HT1
        rw [g2] at HT2
        clear g0 g1 g2 HT3
        go_enter Try.func28, Try.ntmps28
        go_wp2_with fail
        refine HT0.out.mono ?_; rintro e w' ⟨rfl, rfl⟩
        go_wp2_with fail
        refine HT1.out.mono ?_; rintro e w' ⟨rfl, rfl⟩
        go_wp2_with fail
        refine HT2.out.mono ?_; rintro e w' ⟨rfl, rfl⟩
        go_wp2_with fail
        go_ret2
        exact ⟨rfl, Below.refl _ _⟩
      · skip
        cases g3 : decide (0 ≤ t ∧ t ≤ 1000000)
        · obtain ⟨e1, e2⟩ := fa_no (w := a) (r := b) (f := f) (t := t) (.inr (.inr (.inr g3))); rw [e1, e2]; clear e1 e2
          rw [g0] at HT0
          rw [g1] at HT1
          rw [g2] at HT2
          rw [g3] at HT3
          clear g0 g1 g2 g3
          go_enter Try.func28, Try.ntmps28
          go_wp2_with fail
          refine HT0.out.mono ?_; rintro e w' ⟨rfl, rfl⟩
          go_wp2_with fail
          refine HT1.out.mono ?_; rintro e w' ⟨rfl, rfl⟩
          go_wp2_with fail
          refine HT2.out.mono ?_; rintro e w' ⟨rfl, rfl⟩
          go_wp2_with fail
          refine HT3.out.mono ?_; rintro e w' ⟨rfl, rfl⟩
          go_wp2_with fail
          go_ret2
          exact ⟨rfl, Below.refl _ _⟩
        · skip
          obtain ⟨e1, e2⟩ := fa_yes g0 g1 g2 g3
          rw [e1, e2]; clear e1 e2
          have HF := Lib.hid (l07Fill_any a b f t w (tkB_is g0) (tkB_is g1) (by have := of_decide_eq_true g2; omega) (by have := of_decide_eq_true g3; omega))
          generalize fil a b f t = V at *
          rw [g0] at HT0
          rw [g1] at HT1
          rw [g2] at HT2
          rw [g3] at HT3
          clear g0 g1 g2 g3
          go_enter Try.func28, Try.ntmps28
          go_wp2_with fail
          refine HT0.out.mono ?_; rintro e w' ⟨rfl, rfl⟩
          go_wp2_with fail
          refine HT1.out.mono ?_; rintro e w' ⟨rfl, rfl⟩
          go_wp2_with fail
          refine HT2.out.mono ?_; rintro e w' ⟨rfl, rfl⟩
          go_wp2_with fail
          refine HT3.out.mono ?_; rintro e w' ⟨rfl, rfl⟩
          go_wp2_with fail
          refine HF.out.mono ?_; rintro e w2 ⟨rfl, hb2⟩
          have HB2 := Lib.hid hb2
          clear hb2
          go_wp2_with fail
          go_ret2
          exact ⟨rfl, HB2.out⟩
end Go.Proofs.Ytcihogbkfpcfjaa
