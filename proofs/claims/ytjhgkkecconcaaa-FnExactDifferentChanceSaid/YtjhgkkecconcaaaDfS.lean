/- The model's DifferentChance. -/
import Derived.Test.YtjhgkkecconcaaaDfI
namespace Go.Proofs.Ytjhgkkecconcaaa
open Go Go.RowKit
set_option linter.unusedVariables false

set_option maxRecDepth 100000 in
set_option maxHeartbeats 1000000 in
theorem different_spec (n w : Int) (W : World) :
    Calls Try.prog 32 #[.int .i64 n, .int .i64 w] W fun e w' => e = .returned (.tuple #[.agg #[.int .i64 (dcN n w), .int .i64 (dcD n w)], .bool (dcK n w)]) ∧ Below W.heap.size W w' := by
  obtain ⟨W0, hW0⟩ : ∃ W0, W0 = W.alloc (.cells #[.int .i64 0, .int .i64 0] 24) := ⟨_, rfl⟩
  have K0 : Hid (Below W.heap.size W W0) := by show Below _ _ _; rw [hW0]; exact (Below.refl _ _).alloc (Nat.le_refl _) _
  have X0 : Hid (Bk W0 W.heap.size [.int .i64 0, .int .i64 0]) := by show Bk _ _ _; rw [hW0]; exact Bk.new W [.int .i64 0, .int .i64 0] _ _ rfl
  have HW0 := Lib.hid hW0
  clear hW0
  have HC1 := Lib.hid (fun W => l09Many_any n W)
  have HC2 := Lib.hid (fun W => l09Window_any w W)
  cases g0 : rgB 1 12 n
  · obtain ⟨e1, e2, e3⟩ := dc_no (n := n) (w := w) (.inl g0); rw [e1, e2, e3]; clear e1 e2 e3
    rw [g0] at HC1
    clear g0 HC2
    obtain ⟨r0, r1⟩ := bk_twoP X0.out
    have f0 := X0.out.f 0 (by decide)
    have f1 := X0.out.f 1 (by decide)
    go_enter Try.func32, Try.ntmps32
    go_wp2_with fail
    rw [← HW0.out]
    refine (HC1.out _).mono ?_; rintro e w' ⟨rfl, rfl⟩
    go_wp2_with fail
    simp [bodyPost, results, Try.results32, go_sem, r0, r1]
    first | exact (K0.out.setCell (p := ⟨W.heap.size, 0, none⟩) (Nat.le_refl _) _).setCell (p := ⟨W.heap.size, 1, none⟩) (Nat.le_refl _) _ | exact K0.out
  cases g1 : rgB 1 20 w
  · obtain ⟨e1, e2, e3⟩ := dc_no (n := n) (w := w) (.inr g1); rw [e1, e2, e3]; clear e1 e2 e3
    rw [g0] at HC1
    rw [g1] at HC2
    clear g0 g1
    obtain ⟨r0, r1⟩ := bk_twoP X0.out
    have f0 := X0.out.f 0 (by decide)
    have f1 := X0.out.f 1 (by decide)
    go_enter Try.func32, Try.ntmps32
    go_wp2_with fail
    rw [← HW0.out]
    refine (HC1.out _).mono ?_; rintro e w' ⟨rfl, rfl⟩
    go_wp2_with fail
    refine (HC2.out _).mono ?_; rintro e w' ⟨rfl, rfl⟩
    go_wp2_with fail
    simp [bodyPost, results, Try.results32, go_sem, r0, r1]
    first | exact (K0.out.setCell (p := ⟨W.heap.size, 0, none⟩) (Nat.le_refl _) _).setCell (p := ⟨W.heap.size, 1, none⟩) (Nat.le_refl _) _ | exact K0.out
  have hn : 1 ≤ n ∧ n ≤ 12 := of_decide_eq_true g0
  have hw : 1 ≤ w ∧ w ≤ 20 := of_decide_eq_true g1
  obtain ⟨N, rfl⟩ := Int.eq_ofNat_of_zero_le (show 0 ≤ n by omega)
  obtain ⟨V, rfl⟩ := Int.eq_ofNat_of_zero_le (show 0 ≤ w by omega)
  obtain ⟨e1, e2, e3⟩ := dc_yes g0 g1
  rw [e1, e2, e3]
  rw [g0] at HC1
  rw [g1] at HC2
  obtain ⟨k1, -, -⟩ := pt_ok (A := dfO N V) (B := List.replicate N V) (by have := dfP_bd (n := N) (w := V) (by omega) (by omega); unfold dfP at this; omega) (by rw [prN_rep]; have := pow_small (n := N) (w := V) (by omega) (by omega); omega)
  have HP := Lib.hid (fun W v1 v2 h1 h2 => l09Part_any W v1 v2 (dfO N V) (List.replicate N V) h1 h2 (by rw [dfO_len]; omega) (by simp; omega) (by rw [dfO_len]; omega) (by simp; omega) (fun x hx => by have := dfO_le N V x hx; omega) (fun x hx => by have := (List.mem_replicate.1 hx).2; omega))
  rw [k1] at HP
  clear e1 e2 e3 g0 g1 k1
  have hN : N ≤ 12 := by omega
  have hV : V ≤ 20 := by omega
  generalize ptN (dfO N V) (List.replicate N V) = RN at *
  generalize ptD (dfO N V) (List.replicate N V) = RD at *
  obtain ⟨i0, hi, hz0, hz1, hz2⟩ := info_parts Try.infoInt
  obtain ⟨W1, hW1⟩ : ∃ W1, W1 = (W0.alloc (.cells #[] 2)).alloc (.cells #[] 2) := ⟨_, rfl⟩
  have K1 : Hid (Below W0.heap.size W0 W1) := by show Below _ _ _; rw [hW1]; exact ((Below.refl _ _).alloc (Nat.le_refl _) _).alloc (by simp) _
  have O1 : Hid (Own W1 W0.heap.size (.slice (some ⟨W0.heap.size, 0, none⟩) 0 0) (cI (dfO 0 V))) := by
    show Own _ _ _ _
    rw [hW1]
    exact Own.keep (World.ownsRow_made W0 #[] 0 (Nat.le_refl _) (by decide) rfl) ((Below.refl _ _).alloc (Nat.le_refl _) _)
  have U1 : Hid (Own W1 W0.heap.size (.slice (some ⟨W0.heap.size + 1, 0, none⟩) 0 0) (cI (List.replicate 0 V))) := by
    show Own _ _ _ _
    rw [hW1]
    have := World.ownsRow_made (base := W0.heap.size) (e := 2) (size := 1) (W0.alloc (.cells #[] 2)) #[] 0 (by simp) (by decide) rfl
    simpa [cI, Own, intVals] using this
  have P1 : Hid (Apart (.slice (some ⟨W0.heap.size, 0, none⟩) 0 0) (.slice (some ⟨W0.heap.size + 1, 0, none⟩) 0 0)) := by
    intro k h1 h2
    simp [Value.ownBlock] at h1 h2
    omega
  have HW1 := Lib.hid hW1
  clear hW1
  go_enter Try.func32, Try.ntmps32
  go_wp2_with fail
  rw [← HW0.out]
  refine (HC1.out _).mono ?_; rintro e w' ⟨rfl, rfl⟩
  go_wp2_with fail
  refine (HC2.out _).mono ?_; rintro e w' ⟨rfl, rfl⟩
  go_wp2_with fail
  go_loopw [6, 7, 8] (fun vo vu i wr => ∃ k : Nat, k ≤ N ∧ i = .int .i64 k ∧ Own wr W0.heap.size vo (cI (dfO k V)) ∧ Own wr W0.heap.size vu (cI (List.replicate k V)) ∧ Apart vo vu ∧ Below W0.heap.size W0 wr) (fun _ _ i _ => N - (intOf i).toNat)
  case atStart => rw [← HW1.out]; exact ⟨0, Nat.zero_le _, rfl, O1.out, U1.out, P1.out, K1.out⟩
  case round =>
    obtain ⟨k, hk, rfl, ho, hu, hap, hb⟩ := hrel
    have HO := Lib.hid ho
    have HU := Lib.hid hu
    have HAP := Lib.hid hap
    have HB := Lib.hid hb
    obtain ⟨A1, c1, hv1⟩ := own_shape HO.out
    obtain ⟨A2, c2, hv2⟩ := own_shape HU.out
    rw [cI_len, dfO_len] at hv1
    rw [cI_len, List.length_replicate] at hv2
    subst hv1 hv2
    have HL1 : Hid ((cI (dfO k V)).length = k) := by show _ = _; rw [cI_len, dfO_len]
    have HL2 : Hid ((cI (List.replicate k V)).length = k) := by show _ = _; rw [cI_len]; simp
    clear ho hu hap hb O1 U1 P1 K1
    by_cases hlt : k < N
    · have hk1 : (k : Int) < (N : Int) := by omega
      have hsz : W0.heap.size ≤ wr.heap.size := HB.out.size
      have w0 : IntKind.i64.wrap ((V : Int) - (k : Int)) = (V : Int) - (k : Int) := IntWalk.i64_in _ (by omega)
      have HMX : Hid (∀ W, Calls Try.prog 72 #[.int .i64 0, .int .i64 ((V : Int) - (k : Int))] W fun e w' => e = .returned (.int .i64 ((V - k : Nat) : Int)) ∧ W = w') := by
        show ∀ W, _
        intro W
        have := l00MaxP_any 0 ((V : Int) - (k : Int)) W
        rwa [show max (0 : Int) ((V : Int) - (k : Int)) = ((V - k : Nat) : Int) by omega] at this
      have HSO : Hid (cI (dfO k V) ++ [((V - k : Nat) : Int)] = cI (dfO (k + 1) V)) := by show _ = _; rw [dfO_succ, cI_snoc]
      have HSU : Hid (cI (List.replicate k V) ++ [(V : Int)] = cI (List.replicate (k + 1) V)) := by show _ = _; rw [rep_succ, cI_snoc]
      have HKN := Lib.hid hlt
      have HOk : Hid (∀ o : Obj, (wr.alloc o).ownsRow W0.heap.size 2 1 (.slice A1 k c1) k (intVals (cI (dfO k V)))) := by
        show ∀ _, _
        intro o
        have := World.ownsRow.alloc HO.out o
        rwa [show (cI (dfO k V)).length = k from HL1.out] at this
      generalize V - k = D at *
      go_wp2_with fail
      refine (HMX.out _).mono ?_; rintro e w' ⟨rfl, rfl⟩
      go_wp2_with (at_builtin; refine wpList_append_lies _ rfl _ _ 48 rfl W0.heap.size 2 i0 (.int .i64 0) 1 8 Try.underlying48 hi hz0 hz1 hz2 rfl (by decide) _ _ _ rfl (HOk.out _) ⟨wr.heap.size, 0, none⟩ 1 1 [.int .i64 (D : Int)] rfl rfl (c1_b _ _ _) (by intro u hu; simp at hu; subst hu; rfl) (by decide) (by unfold maxLen; omega) (by omega) (by simp; omega) (wr.heap.size + 1) (by simp) ?_)
      intro g1 cap1 w5 hown5 hgrow5 hat5 hlt5
      have HO5 : Hid (Own w5 W0.heap.size (.slice (some ⟨g1, 0, none⟩) (k + 1) cap1) (cI (dfO (k + 1) V))) := by
        show Own _ _ _ _
        rw [← HSO.out]
        exact own_snocI (by rw [HL1.out]; exact hown5)
      have HU5 := Lib.hid (app_other HU.out HAP.out.symm hgrow5)
      have HAP5 := Lib.hid (app_apart (n := k + 1) (cap := cap1) HU.out HAP.out.symm hat5 (Nat.le_succ _)).symm
      have HB5 := Lib.hid (below_appN HB.out HB.out.size HO.out hgrow5)
      have hsz5 : W0.heap.size ≤ w5.heap.size := HB5.out.size
      have HUk : Hid (∀ o : Obj, (w5.alloc o).ownsRow W0.heap.size 2 1 (.slice A2 k c2) k (intVals (cI (List.replicate k V)))) := by
        show ∀ _, _
        intro o
        have := World.ownsRow.alloc HU5.out o
        rwa [show (cI (List.replicate k V)).length = k from HL2.out] at this
      clear hown5 hgrow5 hat5 hlt5 HO HU HAP HB HOk HMX HSO
      go_wp2_with (at_builtin; refine wpList_append_lies _ rfl _ _ 48 rfl W0.heap.size 2 i0 (.int .i64 0) 1 8 Try.underlying48 hi hz0 hz1 hz2 rfl (by decide) _ _ _ rfl (HUk.out _) ⟨w5.heap.size, 0, none⟩ 1 1 [.int .i64 (V : Int)] rfl rfl (c1_b _ _ _) (by intro u hu; simp at hu; subst hu; rfl) (by decide) (by unfold maxLen; omega) (by omega) (by simp; omega) (w5.heap.size + 1) (by simp) ?_)
      intro g2 cap2 w6 hown6 hgrow6 hat6 hlt6
      have HU6 : Hid (Own w6 W0.heap.size (.slice (some ⟨g2, 0, none⟩) (k + 1) cap2) (cI (List.replicate (k + 1) V))) := by
        show Own _ _ _ _
        rw [← HSU.out]
        exact own_snocI (by rw [HL2.out]; exact hown6)
      have HO6 := Lib.hid (app_other HO5.out HAP5.out hgrow6)
      have HAP6 := Lib.hid (app_apart (n := k + 1) (cap := cap2) HO5.out HAP5.out hat6 (Nat.le_succ _))
      have HB6 := Lib.hid (below_appN HB5.out HB5.out.size HU5.out hgrow6)
      clear hown6 hgrow6 hat6 hlt6 HO5 HU5 HAP5 HB5 HUk
      go_wp2_with fail
      go_roundw
      case rel => exact ⟨k + 1, HKN.out, by go_num, HO6.out, HU6.out, HAP6.out, HB6.out⟩
      case measure => simp [intOf]; have := HKN.out; omega
    · obtain rfl : k = N := by omega
      go_wp2_with fail
      refine (HP.out _ _ _ HO.out.rd HU.out.rd).mono ?_; rintro e w2 ⟨rfl, hb2⟩
      have K2 := Lib.hid (K0.out.trans ((HB.out.trans (hb2.mono HB.out.size)).mono K0.out.size))
      have X2 := Lib.hid ((X0.out.keep HB.out).keep hb2)
      clear hb2
      obtain ⟨r0, r1⟩ := bk_twoP X2.out
      have f0 := X2.out.f 0 (by decide)
      have f1 := X2.out.f 1 (by decide)
      go_wp2_with fail
      simp [bodyPost, results, Try.results32, go_sem, r0, r1]
      first | exact (K2.out.setCell (p := ⟨W.heap.size, 0, none⟩) (Nat.le_refl _) _).setCell (p := ⟨W.heap.size, 1, none⟩) (Nat.le_refl _) _ | exact K2.out
end Go.Proofs.Ytjhgkkecconcaaa
