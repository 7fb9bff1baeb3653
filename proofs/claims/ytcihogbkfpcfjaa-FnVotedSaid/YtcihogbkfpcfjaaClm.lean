/- The model's clocks: l07Ticks, l07Run, l07Fine, l07All, IsTolerated, LongestTolerated. -/
import Derived.Test.YtcihogbkfpcfjaaClP
import Derived.Test.YtcihogbkfpcfjaaBtw
namespace Go.Proofs.Ytcihogbkfpcfjaa
open Go Go.RowKit
set_option linter.unusedVariables false

theorem in_any (x a b : Int) (w : World) : Calls Try.prog 42 #[.int .i64 x, .int .i64 a, .int .i64 b] w fun e w' => e = .returned (.bool (decide (a ≤ x ∧ x ≤ b))) ∧ w = w' := by
  by_cases h : a ≤ x ∧ x ≤ b
  · rw [decide_eq_true h]; exact l00In_yes x a b w h.1 h.2
  · rw [decide_eq_false h]; exact l00In_no x a b w h
theorem is_any (x a b : Int) (w : World) : Calls Try.prog 44 #[.int .i64 x, .int .i64 a, .int .i64 b] w fun e w' => e = .returned (.bool (decide (a ≤ x ∧ x ≤ b))) ∧ w = w' := by
  by_cases h : a ≤ x ∧ x ≤ b
  · rw [decide_eq_true h]; exact btw_yes x a b w h.1 h.2
  · rw [decide_eq_false h]; exact btw_no x a b w h
theorem l07Ticks_any (a : Int) (w : World) : Calls Try.prog 41 #[.int .i64 a] w fun e w' => e = .returned (.bool (tkB a)) ∧ w = w' := by
  go_enter Try.func41, Try.ntmps41
  go_wp2_with fail
  refine (in_any _ _ _ _).mono ?_; rintro e w' ⟨rfl, rfl⟩
  go_wp2_with fail
  go_ret
  exact ⟨ret_bool (by simp [tkB]), rfl⟩
theorem l07Run_any (a : Int) (w : World) : Calls Try.prog 46 #[.int .i64 a] w fun e w' => e = .returned (.bool (runB a)) ∧ w = w' := by
  go_enter Try.func46, Try.ntmps46
  go_wp2_with fail
  refine (in_any _ _ _ _).mono ?_; rintro e w' ⟨rfl, rfl⟩
  go_wp2_with fail
  go_ret
  exact ⟨ret_bool (by simp [runB]), rfl⟩
theorem tol_bad {a b n k : Int} (hb : 0 < b) (h1 : 1 ≤ n) (h0 : 0 ≤ k) (hk : k < n) (h : ¬ (2 * (k * a) < 2 * (k * b) + b ∧ 2 * (k * b) + b < 2 * (k * a) + 2 * a)) : tolB a b n = false := by
  refine decide_eq_false fun hs => h ?_
  exact (fine_of_spr hb h1 hs).1 k h0 hk
theorem tol_end {a b n : Int} (hb : 0 < b) (h1 : 1 ≤ n) (h : ∀ k, 0 ≤ k → k < n → 2 * (k * a) < 2 * (k * b) + b ∧ 2 * (k * b) + b < 2 * (k * a) + 2 * a) : tolB a b n = decide (2 * (n * a) ≤ 2 * (n * b) + b) := by
  unfold tolB
  rw [decide_eq_decide, ← fine_iff hb h1]
  exact ⟨fun h => h.2, fun h2 => ⟨h, h2⟩⟩
theorem prod_bd {k a M : Int} (h0 : 0 ≤ k) (hk : k ≤ M) (a0 : 2 ≤ a) (a1 : a ≤ 1000) : 0 ≤ k * a ∧ k * a ≤ M * 1000 :=
  ⟨Int.mul_nonneg h0 (by omega), Int.mul_le_mul hk a1 (by omega) (by omega)⟩

set_option maxRecDepth 100000 in
theorem l07Fine_any (a b n : Int) (w : World) (ha : 2 ≤ a ∧ a ≤ 1000) (hb : 2 ≤ b ∧ b ≤ 1000) (hn : 1 ≤ n ∧ n ≤ 101) :
    Calls Try.prog 48 #[.int .i64 a, .int .i64 b, .int .i64 n] w fun e w' => e = .returned (.bool (tolB a b n)) ∧ w = w' := by
  have HBAD := Lib.hid (fun k => @tol_bad a b n k (by omega) hn.1)
  have HEND := Lib.hid (@tol_end a b n (by omega) hn.1)
  have HPA := Lib.hid (fun (k M : Int) h0 hk => @prod_bd k a M h0 hk ha.1 ha.2)
  have HPB := Lib.hid (fun (k M : Int) h0 hk => @prod_bd k b M h0 hk hb.1 hb.2)
  obtain ⟨n1, n2⟩ := hn
  obtain ⟨a1, a2⟩ := ha
  obtain ⟨b1, b2⟩ := hb
  generalize tolB a b n = R at *
  go_enter Try.func48, Try.ntmps48
  go_wp2_with fail
  go_loopw [7, 8] (fun i x wr => ∃ k : Int, (0 ≤ k ∧ k ≤ n) ∧ i = .int .i64 k ∧ (∀ j, 0 ≤ j → j < k → 2 * (j * a) < 2 * (j * b) + b ∧ 2 * (j * b) + b < 2 * (j * a) + 2 * a) ∧ wr = w) (fun i _ _ => (n - intOf i).toNat)
  case atStart => exact ⟨0, ⟨by omega, by omega⟩, rfl, fun j h0 h1 => by omega, rfl⟩
  case round =>
    obtain ⟨k, ⟨k0, k1⟩, rfl, hall, rfl⟩ := hrel
    have HA := Lib.hid hall
    clear hall
    obtain ⟨pa0, pa1⟩ := HPA.out k 101 k0 (by omega)
    obtain ⟨pb0, pb1⟩ := HPB.out k 101 k0 (by omega)
    by_cases hlt : k < n
    · obtain ⟨X, hX⟩ : ∃ X, X = 2 * (k * b) + b := ⟨_, rfl⟩
      obtain ⟨Y, hY⟩ : ∃ Y, Y = 2 * (k * a) := ⟨_, rfl⟩
      obtain ⟨Z, hZ⟩ : ∃ Z, Z = Y + 2 * a := ⟨_, rfl⟩
      have e1 : (2 * k + 1) * b = X := by rw [hX, Int.add_mul, Int.one_mul, Int.mul_assoc]
      have e2 : 2 * k * a = Y := by rw [hY, Int.mul_assoc]
      have e3 : 2 * (k + 1) * a = Z := by rw [hZ, hY, Int.mul_assoc, Int.add_mul, Int.one_mul, Int.mul_add]
      have w1 : IntKind.i64.wrap ((2 * k + 1) * b) = X := by rw [e1]; exact IntWalk.i64_in _ (by omega)
      have w2 : IntKind.i64.wrap (2 * k * a) = Y := by rw [e2]; exact IntWalk.i64_in _ (by omega)
      have w3 : IntKind.i64.wrap (2 * (k + 1) * a) = Z := by rw [e3]; exact IntWalk.i64_in _ (by omega)
      have HB := Lib.hid (HBAD.out k k0 hlt)
      rw [← hX, ← hY, ← hZ] at HB
      have HN : Hid (Y < X ∧ X < Z → ∀ j, 0 ≤ j → j < k + 1 → 2 * (j * a) < 2 * (j * b) + b ∧ 2 * (j * b) + b < 2 * (j * a) + 2 * a) := by
        show _ → _
        intro h j h0 h1
        by_cases hj : j = k
        · subst hj; omega
        · exact HA.out j h0 (by omega)
      clear e1 e2 e3 hX hY hZ pa0 pa1 pb0 pb1 HA HPA HPB HBAD
      by_cases c1 : X ≤ Y
      · have HR := Lib.hid (HB.out (fun h => by omega))
        clear HB HN HEND
        go_wp2_with fail
        go_ret
        exact ⟨ret_bool HR.out.symm, rfl⟩
      · by_cases c2 : Z ≤ X
        · have HR := Lib.hid (HB.out (fun h => by omega))
          clear HB HN HEND
          go_wp2_with fail
          go_ret
          exact ⟨ret_bool HR.out.symm, rfl⟩
        · have HR := Lib.hid (HN.out ⟨by omega, by omega⟩)
          clear HB HN
          go_wp2_with fail
          go_roundw
          case rel => exact ⟨k + 1, ⟨by omega, by omega⟩, rfl, HR.out, trivial⟩
          case measure => simp [intOf]; omega
    · obtain rfl : k = n := by omega
      have HR := Lib.hid (HEND.out HA.out)
      obtain ⟨X, hX⟩ : ∃ X, X = 2 * (k * b) + b := ⟨_, rfl⟩
      obtain ⟨Y, hY⟩ : ∃ Y, Y = 2 * (k * a) := ⟨_, rfl⟩
      have e1 : (2 * k + 1) * b = X := by rw [hX, Int.add_mul, Int.one_mul, Int.mul_assoc]
      have e2 : 2 * k * a = Y := by rw [hY, Int.mul_assoc]
      have w1 : IntKind.i64.wrap ((2 * k + 1) * b) = X := by rw [e1]; exact IntWalk.i64_in _ (by omega)
      have w2 : IntKind.i64.wrap (2 * k * a) = Y := by rw [e2]; exact IntWalk.i64_in _ (by omega)
      rw [← hX, ← hY] at HR
      clear e1 e2 hX hY pa0 pa1 pb0 pb1 HA HPA HPB HBAD HEND
      go_wp2_with fail
      go_ret
      exact ⟨ret_bool HR.out.symm, rfl⟩
end Go.Proofs.Ytcihogbkfpcfjaa
