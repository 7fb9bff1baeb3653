/- The model's clocks: l07All, IsTolerated, LongestTolerated, TakeRange, JitterTolerated. -/
import Derived.Test.YtcihogbkfpcfjaaClm
namespace Go.Proofs.Ytcihogbkfpcfjaa
open Go Go.RowKit
set_option linter.unusedVariables false

theorem tkB_is {a : Int} (h : tkB a = true) : 2 ≤ a ∧ a ≤ 1000 := of_decide_eq_true h
theorem runB_is {n : Int} (h : runB n = true) : 1 ≤ n ∧ n ≤ 100 := of_decide_eq_true h
theorem ret_iib {k : IntKind} {a b a' b' : Int} {c d : Bool} (h : a = b) (h2 : a' = b') (h3 : c = d) : Ending.returned (.tuple #[.int k a, .int k a', .bool c]) = .returned (.tuple #[.int k b, .int k b', .bool d]) := by rw [h, h2, h3]
theorem tol_mono {a b m n : Int} (hb : 0 < b) (h1 : 1 ≤ m) (h2 : m ≤ n) (h : tolB a b m = false) : tolB a b n = false := by
  have h := of_decide_eq_false h
  exact decide_eq_false fun e => h (Int.le_trans e (spr_mono hb h1 h2))

set_option maxRecDepth 100000 in
theorem l07All_any (a b n : Int) (w : World) (ha : 2 ≤ a ∧ a ≤ 1000) (hb : 2 ≤ b ∧ b ≤ 1000) (hn : 1 ≤ n ∧ n ≤ 100) :
    Calls Try.prog 47 #[.int .i64 a, .int .i64 b, .int .i64 n] w fun e w' => e = .returned (.bool (tolB a b n)) ∧ w = w' := by
  have HF := Lib.hid (fun k h => l07Fine_any a b k w ha hb h)
  have HM := Lib.hid (fun k => @tol_mono a b k n (by omega))
  obtain ⟨R, hR⟩ : ∃ R, R = tolB a b n := ⟨_, rfl⟩
  have HR := Lib.hid hR
  rw [← hR]
  clear hR ha hb
  obtain ⟨n1, n2⟩ := hn
  go_enter Try.func47, Try.ntmps47
  go_wp2_with fail
  go_loopw [7] (fun i wr => ∃ k : Int, (1 ≤ k ∧ k ≤ n + 1) ∧ i = .int .i64 k ∧ (k = n + 1 → R = true) ∧ wr = w) (fun i _ => (n + 1 - intOf i).toNat)
  case atStart => exact ⟨1, ⟨by omega, by omega⟩, rfl, fun h => by omega, rfl⟩
  case round =>
    obtain ⟨k, ⟨k0, k1⟩, rfl, he, rfl⟩ := hrel
    by_cases hlt : k ≤ n
    · have HFk := Lib.hid (HF.out k ⟨by omega, by omega⟩)
      have HMk := Lib.hid (HM.out k k0 hlt)
      have HE : Hid (k + 1 = n + 1 → tolB a b k = true → R = true) := by
        show _ → _ → _
        intro h1 h2
        rw [HR.out, show n = k by omega]; exact h2
      clear he HF HM
      cases ht : tolB a b k
      · have HX := Lib.hid (HMk.out ht)
        rw [ht] at HFk
        clear ht HMk HE
        go_wp2_with fail
        refine HFk.out.mono ?_; rintro e w' ⟨rfl, rfl⟩
        go_wp2_with fail
        go_ret
        exact ⟨ret_bool (by rw [HR.out, HX.out]), rfl⟩
      · have HX := Lib.hid (fun h => HE.out h ht)
        rw [ht] at HFk
        clear ht HMk HE
        go_wp2_with fail
        refine HFk.out.mono ?_; rintro e w' ⟨rfl, rfl⟩
        go_wp2_with fail
        go_roundw
        case rel => exact ⟨k + 1, ⟨by omega, by omega⟩, rfl, HX.out, trivial⟩
        case measure => simp [intOf]; omega
    · have HX := Lib.hid (he (by omega))
      clear he
      go_wp2_with fail
      go_ret
      exact ⟨ret_bool HX.out.symm, rfl⟩

set_option maxRecDepth 100000 in
theorem isTol_spec (a b n : Int) (w : World) :
    Calls Try.prog 20 #[.int .i64 a, .int .i64 b, .int .i64 n] w fun e w' => e = .returned (.bool (tolV a b n)) ∧ Below w.heap.size w w' := by
  have HV : Hid (tolV a b n = ((tkB a && tkB b) && (runB n && tolB a b n))) := rfl
  have HA := Lib.hid (fun h1 h2 h3 => l07All_any a b n w (tkB_is h1) (tkB_is h2) (runB_is h3))
  generalize tolV a b n = V at *
  generalize tolB a b n = T at *
  have HT1 := Lib.hid (l07Ticks_any a w)
  have HT2 := Lib.hid (l07Ticks_any b w)
  have HT3 := Lib.hid (l07Run_any n w)
  cases h1 : tkB a
  · rw [h1] at HT1 HV
    clear h1 HT2 HT3 HA
    go_enter Try.func20, Try.ntmps20
    go_wp2_with fail
    refine HT1.out.mono ?_; rintro e w' ⟨rfl, rfl⟩
    go_wp2_with fail
    go_ret
    exact ⟨ret_bool (by rw [HV.out]; rfl), Below.refl _ _⟩
  · cases h2 : tkB b
    · rw [h1] at HT1 HV
      rw [h2] at HT2 HV
      clear h1 h2 HT3 HA
      go_enter Try.func20, Try.ntmps20
      go_wp2_with fail
      refine HT1.out.mono ?_; rintro e w' ⟨rfl, rfl⟩
      go_wp2_with fail
      refine HT2.out.mono ?_; rintro e w' ⟨rfl, rfl⟩
      go_wp2_with fail
      go_ret
      exact ⟨ret_bool (by rw [HV.out]; rfl), Below.refl _ _⟩
    · cases h3 : runB n
      · rw [h1] at HT1 HV
        rw [h2] at HT2 HV
        rw [h3] at HT3 HV
        clear h1 h2 h3 HA
        go_enter Try.func20, Try.ntmps20
        go_wp2_with fail
        refine HT1.out.mono ?_; rintro e w' ⟨rfl, rfl⟩
        go_wp2_with fail
        refine HT2.out.mono ?_; rintro e w' ⟨rfl, rfl⟩
        go_wp2_with fail
        refine HT3.out.mono ?_; rintro e w' ⟨rfl, rfl⟩
        go_wp2_with fail
        go_ret
        exact ⟨ret_bool (by rw [HV.out]; rfl), Below.refl _ _⟩
      · have HAL := Lib.hid (HA.out h1 h2 h3)
        rw [h1] at HT1 HV
        rw [h2] at HT2 HV
        rw [h3] at HT3 HV
        clear h1 h2 h3 HA
        go_enter Try.func20, Try.ntmps20
        go_wp2_with fail
        refine HT1.out.mono ?_; rintro e w' ⟨rfl, rfl⟩
        go_wp2_with fail
        refine HT2.out.mono ?_; rintro e w' ⟨rfl, rfl⟩
        go_wp2_with fail
        refine HT3.out.mono ?_; rintro e w' ⟨rfl, rfl⟩
        go_wp2_with fail
        refine HAL.out.mono ?_; rintro e w' ⟨rfl, rfl⟩
        go_wp2_with fail
        go_ret
        exact ⟨ret_bool (by rw [HV.out]; simp), Below.refl _ _⟩

theorem ltV_no {a b : Int} (h : tkOk a b = false) : ltV a b = 0 := by unfold ltV; rw [h]; rfl
theorem ltV_yes {a b : Int} (h : tkOk a b = true) : ltV a b = cntU (tolB a b) 100 0 := by unfold ltV; rw [h]; rfl
theorem tkOk_bad (a b : Int) (h : tkB a = false ∨ tkB b = false) : tkOk a b = false := by
  unfold tkOk; rcases h with h | h <;> rw [h] <;> simp
theorem cntU_pos {p : Int → Bool} (k : Nat) (n : Int) : n ≤ cntU p k n := (cntU_ge p k n).1

set_option maxRecDepth 100000 in
theorem longestTol_spec (a b : Int) (w : World) :
    Calls Try.prog 22 #[.int .i64 a, .int .i64 b] w fun e w' => e = .returned (.tuple #[.int .i64 (ltV a b), .bool (decide (0 < ltV a b))]) ∧ Below w.heap.size w w' := by
  have HT1 := Lib.hid (l07Ticks_any a w)
  have HT2 := Lib.hid (l07Ticks_any b w)
  have HF := Lib.hid (fun k h1 h2 h => l07Fine_any a b k w (tkB_is h1) (tkB_is h2) h)
  cases h1 : tkB a
  · rw [ltV_no (tkOk_bad a b (.inl h1))]
    rw [h1] at HT1
    clear h1 HT2 HF
    go_enter Try.func22, Try.ntmps22
    go_wp2_with fail
    refine HT1.out.mono ?_; rintro e w' ⟨rfl, rfl⟩
    go_wp2_with fail
    go_ret2
    exact ⟨rfl, Below.refl _ _⟩
  · cases h2 : tkB b
    · rw [ltV_no (tkOk_bad a b (.inr h2))]
      rw [h1] at HT1
      rw [h2] at HT2
      clear h1 h2 HF
      go_enter Try.func22, Try.ntmps22
      go_wp2_with fail
      refine HT1.out.mono ?_; rintro e w' ⟨rfl, rfl⟩
      go_wp2_with fail
      refine HT2.out.mono ?_; rintro e w' ⟨rfl, rfl⟩
      go_wp2_with fail
      go_ret2
      exact ⟨rfl, Below.refl _ _⟩
    · have HV : Hid (ltV a b = cntU (tolB a b) 100 0) := ltV_yes (by unfold tkOk; rw [h1, h2]; rfl)
      have HFF := Lib.hid (fun k h => HF.out k h1 h2 h)
      rw [h1] at HT1
      rw [h2] at HT2
      generalize ltV a b = V at *
      clear h1 h2 HF
      go_enter Try.func22, Try.ntmps22
      go_wp2_with fail
      refine HT1.out.mono ?_; rintro e w' ⟨rfl, rfl⟩
      go_wp2_with fail
      refine HT2.out.mono ?_; rintro e w' ⟨rfl, rfl⟩
      go_wp2_with fail
      go_loopw [6] (fun i wr => ∃ k : Nat, k ≤ 100 ∧ i = .int .i64 k ∧ V = cntU (tolB a b) (100 - k) k ∧ wr = w) (fun i _ => 100 - (intOf i).toNat)
      case atStart => exact ⟨0, by omega, rfl, HV.out, rfl⟩
      case round =>
        obtain ⟨k, hk, rfl, he, rfl⟩ := hrel
        have HE := Lib.hid he
        have HP : Hid (0 ≤ V) := by show _ ≤ _; rw [he]; have := cntU_pos (p := tolB a b) (100 - k) k; omega
        clear he
        by_cases hlt : k < 100
        · have hk0 : (k : Int) < 100 := by omega
          have HFk := Lib.hid (HFF.out ((k : Int) + 1) ⟨by omega, by omega⟩)
          cases ht : tolB a b ((k : Int) + 1)
          · have HX : Hid (V = (k : Int)) := by show _ = _; rw [HE.out]; exact cntU_no ht
            rw [ht] at HFk
            clear ht HE
            go_wp2_with fail
            refine HFk.out.mono ?_; rintro e w' ⟨rfl, rfl⟩
            go_wp2_with fail
            go_ret2
            exact ⟨ret_ib HX.out.symm (by rw [HX.out]; simp), Below.refl _ _⟩
          · have HX : Hid (V = cntU (tolB a b) (100 - (k + 1)) ((k + 1 : Nat) : Int)) := by
              show _ = _
              rw [HE.out, show 100 - k = (100 - (k + 1)) + 1 from by omega, cntU_yes ht]; rfl
            rw [ht] at HFk
            clear ht HE
            go_wp2_with fail
            refine HFk.out.mono ?_; rintro e w' ⟨rfl, rfl⟩
            go_wp2_with fail
            go_roundw
            case rel => exact ⟨k + 1, by omega, by go_num, HX.out, trivial⟩
            case measure => simp [intOf]; omega
        · obtain rfl : k = 100 := by omega
          have HX : Hid (V = 100) := by show _ = _; rw [HE.out]; rfl
          clear HE
          go_wp2_with fail
          go_ret2
          exact ⟨ret_ib (by rw [HX.out]; rfl) (by rw [HX.out]; rfl), Below.refl _ _⟩
end Go.Proofs.Ytcihogbkfpcfjaa
