/- The model's TakeRange and JitterTolerated. -/
import Derived.Test.YtcihogbkfpcfjaaCln
namespace Go.Proofs.Ytcihogbkfpcfjaa
open Go Go.RowKit
set_option linter.unusedVariables false


theorem tkOk_yes {a b : Int} (h1 : tkB a = true) (h2 : tkB b = true) : tkOk a b = true := by unfold tkOk; rw [h1, h2]; rfl
theorem tkL_no {a n : Int} (h : tkB a = false ∨ runB n = false) : tkL a n = [] := by
  unfold tkL tks
  rw [List.filter_eq_nil_iff]
  intro x _
  unfold tolV tkOk
  rcases h with h | h <;> rw [h] <;> simp
theorem tkL_ok (a n : Int) : tkL a n ≠ [] ↔ 0 < tkLo (tkL a n) := by
  have hm := fun x hx => (tks_mem (a := a) (n := n) (k := 999) x hx).1
  unfold tkL
  cases h : tks a n 999 with
  | nil => simp [tkLo]
  | cons x t => rw [h] at hm; have := hm x (List.mem_cons_self ..); simp [tkLo]; omega
theorem tkLo_bd {l : List Int} (h : ∀ x ∈ l, 2 ≤ x) : (tkLo l = 0 ↔ l = []) := by
  cases l with
  | nil => simp [tkLo]
  | cons x t => have := h x (List.mem_cons_self ..); simp [tkLo]; omega

set_option maxRecDepth 100000 in
theorem l07Jitter_any (a b n j : Int) (w : World) (ha : 2 ≤ a ∧ a ≤ 1000) (hb : 2 ≤ b ∧ b ≤ 1000) (hn : 1 ≤ n ∧ n ≤ 100) (hj : 0 ≤ j ∧ j ≤ 1000000) :
    Calls Try.prog 49 #[.int .i64 a, .int .i64 b, .int .i64 n, .int .i64 j] w fun e w' => e = .returned (.bool (decide (4 * j ≤ spr a b n))) ∧ w = w' := by
  have HPA := Lib.hid (fun (k M : Int) h0 hk => @prod_bd k a M h0 hk ha.1 ha.2)
  have HPB := Lib.hid (fun (k M : Int) h0 hk => @prod_bd k b M h0 hk hb.1 hb.2)
  have HBAD : Hid (∀ k, 1 ≤ k → k ≤ n → ¬ jitP a b k j → decide (4 * j ≤ spr a b n) = false) := by
    show ∀ _, _
    intro k h1 h2 h
    exact decide_eq_false fun e => h (jit_iff.2 (Int.le_trans e (spr_mono (by omega) h1 h2)))
  have HEND : Hid (jitP a b n j → decide (4 * j ≤ spr a b n) = true) := by
    show _ → _
    intro h
    exact decide_eq_true (jit_iff.1 h)
  obtain ⟨n1, n2⟩ := hn
  obtain ⟨a1, a2⟩ := ha
  obtain ⟨b1, b2⟩ := hb
  obtain ⟨j1, j2⟩ := hj
  generalize decide (4 * j ≤ spr a b n) = R at *
  go_enter Try.func49, Try.ntmps49
  go_wp2_with fail
  go_loopw [9] (fun i wr => ∃ k : Int, (1 ≤ k ∧ k ≤ n + 1) ∧ i = .int .i64 k ∧ (k = n + 1 → jitP a b n j) ∧ wr = w) (fun i _ => (n + 1 - intOf i).toNat)
  case atStart => exact ⟨1, ⟨by omega, by omega⟩, rfl, fun h => by omega, rfl⟩
  case round =>
    obtain ⟨k, ⟨k0, k1⟩, rfl, hend, rfl⟩ := hrel
    have HE := Lib.hid hend
    clear hend
    obtain ⟨pa0, pa1⟩ := HPA.out k 101 (by omega) (by omega)
    obtain ⟨pb0, pb1⟩ := HPB.out k 101 (by omega) (by omega)
    by_cases hlt : k ≤ n
    · have HB := Lib.hid (HBAD.out k k0 hlt)
      have HJ : Hid (jitP a b k j ↔ 2 * (k * b) - b < 2 * (k * a) - 4 * j ∧ 2 * (k * a) + 4 * j ≤ 2 * (k * b) + b) := Iff.rfl
      obtain ⟨P, hP⟩ : ∃ P, P = k * a := ⟨_, rfl⟩
      obtain ⟨Q, hQ⟩ : ∃ Q, Q = k * b := ⟨_, rfl⟩
      rw [← hP, ← hQ] at HJ
      rw [← hP] at pa0 pa1
      rw [← hQ] at pb0 pb1
      have e1 : (2 * k - 1) * b = 2 * Q - b := by rw [hQ, Int.sub_mul, Int.one_mul, Int.mul_assoc]
      have e2 : (2 * k + 1) * b = 2 * Q + b := by rw [hQ, Int.add_mul, Int.one_mul, Int.mul_assoc]
      have w0 : IntKind.i64.wrap (k * a) = P := by rw [← hP]; exact IntWalk.i64_in _ (by omega)
      obtain ⟨X, hX⟩ : ∃ X, X = 2 * Q - b := ⟨_, rfl⟩
      obtain ⟨Y, hY⟩ : ∃ Y, Y = 2 * Q + b := ⟨_, rfl⟩
      have w1 : IntKind.i64.wrap ((2 * k - 1) * b) = X := by rw [e1, ← hX]; exact IntWalk.i64_in _ (by omega)
      have w2 : IntKind.i64.wrap ((2 * k + 1) * b) = Y := by rw [e2, ← hY]; exact IntWalk.i64_in _ (by omega)
      have HXY : Hid (X = 2 * Q - b ∧ Y = 2 * Q + b) := ⟨hX, hY⟩
      have bx : -1000000 ≤ X ∧ X ≤ 1000000 := by omega
      have by2 : -1000000 ≤ Y ∧ Y ≤ 1000000 := by omega
      obtain ⟨bx1, bx2⟩ := bx
      obtain ⟨by1, by2⟩ := by2
      clear e1 e2 hX hY hQ pb0 pb1 HPA HPB HBAD
      have HP := Lib.hid hP
      clear hP
      by_cases c1 : 2 * (P - 2 * j) ≤ X
      · have HR := Lib.hid (HB.out (fun h => by have := HJ.out.1 h; have := HXY.out; omega))
        clear HB HEND HE
        go_wp2_with fail
        go_ret
        exact ⟨ret_bool HR.out.symm, rfl⟩
      · by_cases c2 : Y < 2 * (P + 2 * j)
        · have HR := Lib.hid (HB.out (fun h => by have := HJ.out.1 h; have := HXY.out; omega))
          clear HB HEND HE
          go_wp2_with fail
          go_ret
          exact ⟨ret_bool HR.out.symm, rfl⟩
        · have HR : Hid (k + 1 = n + 1 → jitP a b n j) := by
            show _ → _
            intro h
            rw [show n = k by omega]
            exact HJ.out.2 (by have := HXY.out; omega)
          clear HB HE HJ HXY
          go_wp2_with fail
          go_roundw
          case rel => exact ⟨k + 1, ⟨by omega, by omega⟩, rfl, HR.out, trivial⟩
          case measure => simp [intOf]; omega
    · have HR := Lib.hid (HEND.out (HE.out (by omega)))
      clear HEND HE HPA HPB HBAD pa0 pa1 pb0 pb1
      go_wp2_with fail
      go_ret
      exact ⟨ret_bool HR.out.symm, rfl⟩

theorem jitV_no {a b n : Int} (h : tkB a = false ∨ tkB b = false ∨ runB n = false ∨ tolB a b n = false) : jitV a b n = 0 ∧ tolV a b n = false := by
  have e : tolV a b n = false := by unfold tolV tkOk; rcases h with h | h | h | h <;> rw [h] <;> simp
  exact ⟨by unfold jitV; rw [e]; rfl, e⟩
theorem jitV_yes {a b n : Int} (h1 : tkB a = true) (h2 : tkB b = true) (h3 : runB n = true) (h4 : tolB a b n = true) : jitV a b n = spr a b n / 4 ∧ tolV a b n = true := by
  have e : tolV a b n = true := by unfold tolV tkOk; rw [h1, h2, h3, h4]; rfl
  exact ⟨by unfold jitV; rw [e]; rfl, e⟩
theorem spr_bd {a b n : Int} (ha : 2 ≤ a ∧ a ≤ 1000) (hb : 2 ≤ b ∧ b ≤ 1000) (hn : 1 ≤ n ∧ n ≤ 100) : spr a b n ≤ 1000000 ∧ -1000000 ≤ spr a b n := by
  have := prod_bd (k := n) (M := 100) (by omega) hn.2 ha.1 ha.2
  have := prod_bd (k := n) (M := 100) (by omega) hn.2 hb.1 hb.2
  unfold spr shr lgr
  omega
theorem j0 (a b n : Int) : decide (4 * (0 : Int) ≤ spr a b n) = tolB a b n := rfl
set_option maxRecDepth 100000 in
set_option maxHeartbeats 1000000 in
theorem jitTol_spec (a b n : Int) (w : World) :
    Calls Try.prog 26 #[.int .i64 a, .int .i64 b, .int .i64 n] w fun e w' => e = .returned (.tuple #[.int .i64 (jitV a b n), .bool (tolV a b n)]) ∧ Below w.heap.size w w' := by
  have HT0 := Lib.hid (l07Ticks_any a w)
  have HT1 := Lib.hid (l07Ticks_any b w)
  have HT2 := Lib.hid (l07Run_any n w)
  cases g0 : tkB a
  · obtain ⟨e1, e2⟩ := jitV_no (a := a) (b := b) (n := n) (.inl g0); rw [e1, e2]; clear e1 e2
    rw [g0] at HT0
    clear g0 HT1 HT2
    go_enter Try.func26, Try.ntmps26
    go_wp2_with fail
    refine HT0.out.mono ?_; rintro e w' ⟨rfl, rfl⟩
    go_wp2_with fail
    go_ret2
    exact ⟨rfl, Below.refl _ _⟩
  · skip
    cases g1 : tkB b
    · obtain ⟨e1, e2⟩ := jitV_no (a := a) (b := b) (n := n) (.inr (.inl g1)); rw [e1, e2]; clear e1 e2
      rw [g0] at HT0
      rw [g1] at HT1
      clear g0 g1 HT2
      go_enter Try.func26, Try.ntmps26
      go_wp2_with fail
      refine HT0.out.mono ?_; rintro e w' ⟨rfl, rfl⟩
      go_wp2_with fail
      refine HT1.out.mono ?_; rintro e w' ⟨rfl, rfl⟩
      go_wp2_with fail
      go_ret2
      exact ⟨rfl, Below.refl _ _⟩
    · skip
      cases g2 : runB n
      · obtain ⟨e1, e2⟩ := jitV_no (a := a) (b := b) (n := n) (.inr (.inr (.inl g2))); rw [e1, e2]; clear e1 e2
        rw [g0] at HT0
        rw [g1] at HT1
        rw [g2] at HT2
        clear g0 g1 g2
        go_enter Try.func26, Try.ntmps26
        go_wp2_with fail
        refine HT0.out.mono ?_; rintro e w' ⟨rfl, rfl⟩
        go_wp2_with fail
        refine HT1.out.mono ?_; rintro e w' ⟨rfl, rfl⟩
        go_wp2_with fail
        refine HT2.out.mono ?_; rintro e w' ⟨rfl, rfl⟩
        go_wp2_with fail
        go_ret2
        exact ⟨rfl, Below.refl _ _⟩
      · skip
        have HJ := Lib.hid (fun j h => l07Jitter_any a b n j w (tkB_is g0) (tkB_is g1) (runB_is g2) h)
        obtain ⟨sb1, sb2⟩ := spr_bd (tkB_is g0) (tkB_is g1) (runB_is g2)
        have HJ0 := Lib.hid (HJ.out 0 (by omega))
        rw [j0] at HJ0
        have HNO := Lib.hid (fun h => jitV_no (a := a) (b := b) (n := n) (.inr (.inr (.inr h))))
        have HYES := Lib.hid (fun h => jitV_yes g0 g1 g2 h)
        generalize jitV a b n = V at *
        generalize tolV a b n = T at *
        rw [g0] at HT0
        rw [g1] at HT1
        rw [g2] at HT2
        clear g0 g1 g2
        go_enter Try.func26, Try.ntmps26
        go_wp2_with fail
        refine HT0.out.mono ?_; rintro e w' ⟨rfl, rfl⟩
        go_wp2_with fail
        refine HT1.out.mono ?_; rintro e w' ⟨rfl, rfl⟩
        go_wp2_with fail
        refine HT2.out.mono ?_; rintro e w' ⟨rfl, rfl⟩
        go_wp2_with fail
        cases g4 : tolB a b n
        · obtain ⟨e1, e2⟩ := HNO.out g4
          subst e1 e2
          rw [g4] at HJ0
          clear g4 HNO HYES HJ
          refine HJ0.out.mono ?_; rintro e w' ⟨rfl, rfl⟩
          go_wp2_with fail
          go_ret2
          exact ⟨rfl, Below.refl _ _⟩
        · obtain ⟨e1, e2⟩ := HYES.out g4
          have HV := Lib.hid e1
          have hs0 : 0 ≤ spr a b n := of_decide_eq_true g4
          subst e2
          rw [g4] at HJ0
          clear g4 HNO HYES e1
          generalize spr a b n = S at *
          refine HJ0.out.mono ?_; rintro e w' ⟨rfl, rfl⟩
          go_wp2_with fail
          go_loopw [8] (fun i wr => ∃ k : Int, (0 ≤ k ∧ 4 * k ≤ S) ∧ i = .int .i64 k ∧ wr = w) (fun i _ => (S - intOf i).toNat)
          case atStart => exact ⟨0, ⟨by omega, by omega⟩, rfl, rfl⟩
          case round =>
            obtain ⟨k, ⟨k0, k1⟩, rfl, rfl⟩ := hrel
            have HJk := Lib.hid (HJ.out (k + 1) ⟨by omega, by omega⟩)
            clear HJ HJ0
            by_cases hc : 4 * (k + 1) ≤ S
            · rw [decide_eq_true hc] at HJk
              go_wp2_with fail
              refine HJk.out.mono ?_; rintro e w' ⟨rfl, rfl⟩
              go_wp2_with fail
              go_roundw
              case rel => exact ⟨k + 1, ⟨by omega, by omega⟩, rfl, trivial⟩
              case measure => simp [intOf]; omega
            · rw [decide_eq_false hc] at HJk
              have HVk : Hid (k = V) := by show _ = _; rw [HV.out]; omega
              clear HV
              go_wp2_with fail
              refine HJk.out.mono ?_; rintro e w' ⟨rfl, rfl⟩
              go_wp2_with fail
              go_ret2
              exact ⟨ret_ib HVk.out rfl, Below.refl _ _⟩
set_option maxRecDepth 100000 in
set_option maxHeartbeats 1000000 in
theorem takeRange_spec (a n : Int) (w : World) :
    Calls Try.prog 24 #[.int .i64 a, .int .i64 n] w fun e w' => e = .returned (.tuple #[.int .i64 (tkLo (tkL a n)), .int .i64 (tkHi (tkL a n)), .bool (decide (0 < tkLo (tkL a n)))]) ∧ Below w.heap.size w w' := by
  have HT0 := Lib.hid (l07Ticks_any a w)
  have HT1 := Lib.hid (l07Run_any n w)
  cases g0 : tkB a
  · rw [tkL_no (.inl g0)]
    rw [g0] at HT0
    clear g0 HT1
    go_enter Try.func24, Try.ntmps24
    go_wp2_with fail
    refine HT0.out.mono ?_; rintro e w' ⟨rfl, rfl⟩
    go_wp2_with fail
    go_ret3
    exact ⟨rfl, Below.refl _ _⟩
  · skip
    cases g1 : runB n
    · rw [tkL_no (.inr g1)]
      rw [g0] at HT0
      rw [g1] at HT1
      clear g0 g1
      go_enter Try.func24, Try.ntmps24
      go_wp2_with fail
      refine HT0.out.mono ?_; rintro e w' ⟨rfl, rfl⟩
      go_wp2_with fail
      refine HT1.out.mono ?_; rintro e w' ⟨rfl, rfl⟩
      go_wp2_with fail
      go_ret3
      exact ⟨rfl, Below.refl _ _⟩
    · skip
      have HA := Lib.hid (fun x h => l07All_any a x n w (tkB_is g0) h (runB_is g1))
      have HV : Hid (∀ x, 2 ≤ x → x ≤ 1000 → tolV a x n = tolB a x n) := by
        show ∀ _, _
        intro x h1 h2
        unfold tolV tkOk
        rw [g0, g1, show tkB x = true from decide_eq_true ⟨h1, h2⟩]
        simp
      have HY := Lib.hid (fun k => @tks_yes a n k)
      have HN := Lib.hid (fun k => @tks_no a n k)
      have HM := Lib.hid (fun k x hx => (@tks_mem a n k x hx).1)
      have HL : Hid (tkL a n = tks a n 999) := rfl
      generalize tkL a n = LL at *
      rw [g0] at HT0
      rw [g1] at HT1
      clear g0 g1
      go_enter Try.func24, Try.ntmps24
      go_wp2_with fail
      refine HT0.out.mono ?_; rintro e w' ⟨rfl, rfl⟩
      go_wp2_with fail
      refine HT1.out.mono ?_; rintro e w' ⟨rfl, rfl⟩
      go_wp2_with fail
      go_loopw [7, 8, 9] (fun lo hi i wr => ∃ k : Nat, k ≤ 999 ∧ i = .int .i64 ((k : Int) + 2) ∧ lo = .int .i64 (tkLo (tks a n k)) ∧ hi = .int .i64 (tkHi (tks a n k)) ∧ wr = w) (fun _ _ i _ => 1001 - (intOf i).toNat)
      case atStart => exact ⟨0, by omega, rfl, rfl, rfl, rfl⟩
      case round =>
        obtain ⟨k, hk, rfl, rfl, rfl, rfl⟩ := hrel
        by_cases hlt : k < 999
        · have hk1 : (k : Int) + 2 ≤ 1000 := by omega
          have HAk := Lib.hid (HA.out ((k : Int) + 2) ⟨by omega, by omega⟩)
          have hv := HV.out ((k : Int) + 2) (by omega) (by omega)
          have hz := tkLo_bd (HM.out k)
          have HYk := Lib.hid (HY.out k)
          have HNk := Lib.hid (HN.out k)
          rw [hv] at HYk HNk
          generalize tks a n k = K at *
          cases ht : tolB a ((k : Int) + 2) n
          · have HX := Lib.hid (HNk.out ht)
            rw [ht] at HAk
            have HO : Hid (tkLo (tks a n (k + 1)) = tkLo K) := by show _ = _; rw [HX.out]
            have HH : Hid (tkHi (tks a n (k + 1)) = tkHi K) := by show _ = _; rw [HX.out]
            clear ht HYk HNk hv hz HX
            generalize tkLo K = lo at *
            generalize tkHi K = hi at *
            go_wp2_with fail
            refine HAk.out.mono ?_; rintro e w' ⟨rfl, rfl⟩
            go_wp2_with fail
            go_roundw
            case rel => exact ⟨k + 1, by omega, by go_num, by rw [HO.out], by rw [HH.out], trivial⟩
            case measure => simp [intOf]; omega
          · have hx := HYk.out ht
            have HH : Hid (tkHi (tks a n (k + 1)) = (k : Int) + 2) := by show _ = _; rw [hx]; exact tkHi_snoc _ _
            rw [ht] at HAk
            by_cases he : K = []
            · have HO : Hid (tkLo (tks a n (k + 1)) = (k : Int) + 2) := by show _ = _; rw [hx, tkLo_snoc, if_pos he]
              have h0 : tkLo K = 0 := hz.2 he
              clear ht HYk HNk hv hz hx he
              rw [h0]
              generalize tkHi K = hi at *
              go_wp2_with fail
              refine HAk.out.mono ?_; rintro e w' ⟨rfl, rfl⟩
              go_wp2_with fail
              go_roundw
              case rel => exact ⟨k + 1, by omega, by go_num, by rw [HO.out], by rw [HH.out], trivial⟩
              case measure => simp [intOf]; omega
            · have HO : Hid (tkLo (tks a n (k + 1)) = tkLo K) := by show _ = _; rw [hx, tkLo_snoc, if_neg he]
              have h0 : (tkLo K == 0) = false := beq_f (fun e => he (hz.1 e))
              clear ht HYk HNk hv hz hx he
              generalize tkHi K = hi at *
              generalize tkLo K = lo at *
              go_wp2_with fail
              refine HAk.out.mono ?_; rintro e w' ⟨rfl, rfl⟩
              go_wp2_with fail
              go_roundw
              case rel => exact ⟨k + 1, by omega, by go_num, by rw [HO.out], by rw [HH.out], trivial⟩
              case measure => simp [intOf]; omega
        · obtain rfl : k = 999 := by omega
          have HO : Hid (tkLo (tks a n 999) = tkLo LL) := by show _ = _; rw [HL.out]
          have HH : Hid (tkHi (tks a n 999) = tkHi LL) := by show _ = _; rw [HL.out]
          clear HA HV HY HN HM HL
          generalize tkLo (tks a n 999) = lo at *
          generalize tkHi (tks a n 999) = hi at *
          go_wp2_with fail
          go_ret3
          exact ⟨ret_iib HO.out HH.out (by rw [HO.out]), Below.refl _ _⟩
end Go.Proofs.Ytcihogbkfpcfjaa
