/- The program's JitterTolerated, IsTolerated, LongestTolerated. -/
import Derived.Test.YtcihogbkfpcfjaaCli
namespace Go.Proofs.Ytcihogbkfpcfjaa
open Go Go.RowKit
set_option linter.unusedVariables false


theorem jit_quot (S : Int) (h : 0 ≤ S) : S.tdiv 4 = S / 4 := by
  obtain ⟨n, rfl⟩ := Int.eq_ofNat_of_zero_le h
  rfl
set_option maxRecDepth 100000 in
set_option maxHeartbeats 1000000 in
theorem jitTol_impl (a b n : Int) (w : World) :
    Calls Try.prog 27 #[.int .i64 a, .int .i64 b, .int .i64 n] w fun e w' => e = .returned (.tuple #[.int .i64 (jitV a b n), .bool (tolV a b n)]) ∧ Below w.heap.size w w' := by
  have HVAL := Lib.hid (fun W => areValid_any a b W)
  have HRUN : Hid (∀ W, Calls Try.prog 44 #[.int .i64 n, .int .i64 1, .int .i64 100] W fun e w' => e = .returned (.bool (runB n)) ∧ W = w') := fun W => is_any n 1 100 W
  have HSP := Lib.hid (fun W h1 h2 h3 => spareOf_any a b n W h1 h2 h3)
  have HIN : Hid (∀ W, Calls Try.prog 51 #[.int .i64 2] W fun e w' => e = .returned (.int .i64 4) ∧ W = w') := fun W => inHalves_any 2 W (by omega)
  obtain ⟨W0, hW0⟩ : ∃ W0, W0 = w.alloc (.cells #[.int .i64 a, .int .i64 b] 46) := ⟨_, rfl⟩
  have HB0 : Hid (Below w.heap.size w W0) := by
    show Below _ _ _
    rw [hW0]
    exact (Below.refl _ _).alloc (Nat.le_refl _) _
  have HK0 : Hid (Bk W0 w.heap.size (ckV a b)) := by
    show Bk _ _ _
    rw [hW0]
    exact Bk.new w (ckV a b) 46 _ rfl
  have HW0 := Lib.hid hW0
  obtain ⟨p0, p1⟩ := ck_two HK0.out
  clear hW0
  cases h1 : tkOk a b
  · have hne : tkB a = false ∨ tkB b = false := by
      unfold tkOk at h1
      cases h : tkB a
      · exact .inl rfl
      · rw [h] at h1; exact .inr h1
    obtain ⟨e1, e2⟩ : jitV a b n = 0 ∧ tolV a b n = false := jitV_no (hne.elim .inl (fun h => .inr (.inl h)))
    rw [e1, e2]
    rw [h1] at HVAL
    clear e1 e2 h1 hne
    go_enter Try.func27, Try.ntmps27
    go_wp2_with fail
    rw [← HW0.out]
    refine (HVAL.out _).mono ?_; rintro e w1 ⟨rfl, hb1⟩
    have HB1 := Lib.hid (HB0.out.trans (hb1.mono HB0.out.size))
    clear hb1
    go_wp2_with fail
    go_ret2
    exact ⟨rfl, HB1.out⟩
  · have ha : tkB a = true := by unfold tkOk at h1; exact (Bool.and_eq_true_iff.1 h1).1
    have hb : tkB b = true := by unfold tkOk at h1; exact (Bool.and_eq_true_iff.1 h1).2
    rw [h1] at HVAL
    cases h2 : runB n
    · obtain ⟨e1, e2⟩ : jitV a b n = 0 ∧ tolV a b n = false := jitV_no (.inr (.inr (.inl h2)))
      rw [e1, e2]
      rw [h2] at HRUN
      clear e1 e2 h1 h2 ha hb
      go_enter Try.func27, Try.ntmps27
      go_wp2_with fail
      rw [← HW0.out]
      refine (HVAL.out _).mono ?_; rintro e w1 ⟨rfl, hb1⟩
      have HB1 := Lib.hid (HB0.out.trans (hb1.mono HB0.out.size))
      clear hb1
      go_wp2_with fail
      refine (HRUN.out _).mono ?_; rintro e w' ⟨rfl, rfl⟩
      go_wp2_with fail
      go_ret2
      exact ⟨rfl, HB1.out⟩
    · have HNO := Lib.hid (fun h => jitV_no (a := a) (b := b) (n := n) (.inr (.inr (.inr h))))
      have HYES := Lib.hid (fun h => jitV_yes ha hb h2 h)
      have HSPR := Lib.hid (fun W => HSP.out W (tkB_is ha) (tkB_is hb) (runB_is h2))
      have hT : tolB a b n = decide (0 ≤ spr a b n) := rfl
      obtain ⟨sb1, sb2⟩ := spr_bd (tkB_is ha) (tkB_is hb) (runB_is h2)
      rw [h2] at HRUN
      rw [hT] at HNO HYES
      have HQ := Lib.hid (jit_quot (spr a b n))
      generalize jitV a b n = V at *
      generalize tolV a b n = T at *
      generalize spr a b n = S at *
      clear hT h1 h2 ha hb HSP
      by_cases hs : S < 0
      · obtain ⟨e1, e2⟩ := HNO.out (decide_eq_false (by omega))
        subst e1 e2
        clear HNO HYES HQ
        go_enter Try.func27, Try.ntmps27
        go_wp2_with fail
        rw [← HW0.out]
        refine (HVAL.out _).mono ?_; rintro e w1 ⟨rfl, hb1⟩
        have HB1 := Lib.hid (HB0.out.trans (hb1.mono HB0.out.size))
        obtain ⟨r0, r1⟩ := ck_two (HK0.out.keep hb1)
        clear hb1 p0 p1
        go_wp2_with fail
        refine (HRUN.out _).mono ?_; rintro e w' ⟨rfl, rfl⟩
        go_wp2_with fail
        refine (HSPR.out _).mono ?_; rintro e w2 ⟨rfl, hb2⟩
        have HB2 := Lib.hid (HB1.out.trans (hb2.mono HB1.out.size))
        clear hb2
        go_wp2_with fail
        go_ret2
        exact ⟨rfl, HB2.out⟩
      · obtain ⟨e1, e2⟩ := HYES.out (decide_eq_true (by omega))
        have HV := Lib.hid e1
        subst e2
        have hs0 : 0 ≤ S := by omega
        clear HNO HYES e1 HQ
        go_enter Try.func27, Try.ntmps27
        go_wp2_with fail
        rw [← HW0.out]
        refine (HVAL.out _).mono ?_; rintro e w1 ⟨rfl, hb1⟩
        have HB1 := Lib.hid (HB0.out.trans (hb1.mono HB0.out.size))
        obtain ⟨r0, r1⟩ := ck_two (HK0.out.keep hb1)
        clear hb1 p0 p1
        go_wp2_with fail
        refine (HRUN.out _).mono ?_; rintro e w' ⟨rfl, rfl⟩
        go_wp2_with fail
        refine (HSPR.out _).mono ?_; rintro e w2 ⟨rfl, hb2⟩
        have HB2 := Lib.hid (HB1.out.trans (hb2.mono HB1.out.size))
        clear hb2
        go_wp2_with fail
        refine (HIN.out _).mono ?_; rintro e w' ⟨rfl, rfl⟩
        go_wp2_with fail
        go_ret2
        exact ⟨ret_ib HV.out.symm rfl, HB2.out⟩

theorem isTol_impl (a b n : Int) (w : World) :
    Calls Try.prog 21 #[.int .i64 a, .int .i64 b, .int .i64 n] w fun e w' => e = .returned (.bool (tolV a b n)) ∧ Below w.heap.size w w' := by
  have HJ := Lib.hid (fun W => jitTol_impl a b n W)
  generalize jitV a b n = V at *
  generalize tolV a b n = T at *
  go_enter Try.func21, Try.ntmps21
  go_wp2_with fail
  refine (HJ.out _).mono ?_; rintro e w1 ⟨rfl, hb1⟩
  have HB1 := Lib.hid hb1
  clear hb1
  go_wp2_with fail
  go_ret
  exact ⟨rfl, HB1.out⟩

theorem tolV_all {a b : Int} (h : tkOk a b = true) (k : Int) (h1 : 1 ≤ k) (h2 : k ≤ 100) : tolV a b k = tolB a b k := by
  unfold tolV
  rw [h, show runB k = true from decide_eq_true ⟨h1, h2⟩]; rfl
theorem tolV_none {a b k : Int} (h : tkOk a b = false ∨ 100 < k) : tolV a b k = false := by
  unfold tolV
  rcases h with h | h
  · rw [h]; rfl
  · rw [show runB k = false from decide_eq_false (by omega)]; simp

set_option maxRecDepth 100000 in
theorem longestTol_impl (a b : Int) (w : World) :
    Calls Try.prog 23 #[.int .i64 a, .int .i64 b] w fun e w' => e = .returned (.tuple #[.int .i64 (ltV a b), .bool (decide (0 < ltV a b))]) ∧ Below w.heap.size w w' := by
  have HT := Lib.hid (fun k W => isTol_impl a b k W)
  have HSTEP : Hid (∀ k : Nat, k ≤ 100 → (tkOk a b = false → k = 0) → ltV a b = cntU (tolB a b) (100 - k) k ∨ (tkOk a b = false) → (tolV a b ((k : Int) + 1) = false → ltV a b = k) ∧ (tolV a b ((k : Int) + 1) = true → k < 100 ∧ tkOk a b = true ∧ ltV a b = cntU (tolB a b) (100 - (k + 1)) ((k + 1 : Nat) : Int))) := by
    show ∀ _, _
    intro k hk h0 h
    cases ho : tkOk a b
    · refine ⟨fun _ => ?_, fun h2 => ?_⟩
      · rw [ltV_no ho, h0 ho]; rfl
      · rw [tolV_none (.inl ho)] at h2; cases h2
    · rcases h with h | h
      · by_cases hlt : k < 100
        · rw [tolV_all ho _ (by omega) (by omega)]
          refine ⟨fun h2 => ?_, fun h2 => ⟨hlt, rfl, ?_⟩⟩
          · rw [h]; exact cntU_no h2
          · rw [h, show 100 - k = (100 - (k + 1)) + 1 from by omega, cntU_yes h2]; rfl
        · obtain rfl : k = 100 := by omega
          rw [tolV_none (.inr (by omega))]
          exact ⟨fun _ => by rw [h]; rfl, fun h => by cases h⟩
      · rw [ho] at h; cases h
  have HST : Hid ((tkOk a b = false → 0 = 0) ∧ (ltV a b = cntU (tolB a b) (100 - 0) (0 : Nat) ∨ tkOk a b = false)) := by
    refine ⟨fun _ => rfl, ?_⟩
    cases ho : tkOk a b
    · exact .inr rfl
    · exact .inl (ltV_yes ho)
  have HPOS : Hid (∀ k : Nat, ltV a b = k → 0 ≤ ltV a b) := by show ∀ _, _; intro k h; omega
  generalize ltV a b = V at *
  go_enter Try.func23, Try.ntmps23
  go_wp2_with fail
  go_loopw [6] (fun i wr => ∃ k : Nat, k ≤ 100 ∧ i = .int .i64 k ∧ (tkOk a b = false → k = 0) ∧ (V = cntU (tolB a b) (100 - k) k ∨ tkOk a b = false) ∧ Below w.heap.size w wr) (fun i _ => 100 - (intOf i).toNat)
  case atStart => exact ⟨0, by omega, rfl, fun _ => rfl, HST.out.2, Below.refl _ _⟩
  case round =>
    obtain ⟨k, hk, rfl, h0, hv, hb⟩ := hrel
    have HB := Lib.hid hb
    have HS := Lib.hid (HSTEP.out k hk h0 hv)
    have HTk := Lib.hid (HT.out ((k : Int) + 1))
    clear hb h0 hv HST
    cases ht : tolV a b ((k : Int) + 1)
    · have HX := Lib.hid (HS.out.1 ht)
      rw [ht] at HTk
      clear ht HS HSTEP
      go_wp2_with fail
      refine (HTk.out _).mono ?_; rintro e w1 ⟨rfl, hb1⟩
      have HB1 := Lib.hid (HB.out.trans (hb1.mono HB.out.size))
      clear hb1
      go_wp2_with fail
      go_ret2
      exact ⟨ret_ib HX.out.symm (by rw [HX.out]; simp), HB1.out⟩
    · obtain ⟨hlt, ho, hx⟩ := HS.out.2 ht
      have HX := Lib.hid hx
      have HO : Hid (tkOk a b = false → k + 1 = 0) := by show _ → _; intro h; rw [h] at ho; cases ho
      rw [ht] at HTk
      clear ht HS ho hx
      go_wp2_with fail
      refine (HTk.out _).mono ?_; rintro e w1 ⟨rfl, hb1⟩
      have HB1 := Lib.hid (HB.out.trans (hb1.mono HB.out.size))
      clear hb1
      go_wp2_with fail
      go_roundw
      case rel => exact ⟨k + 1, by omega, by go_num, HO.out, .inl HX.out, HB1.out⟩
      case measure => simp [intOf]; omega
end Go.Proofs.Ytcihogbkfpcfjaa
