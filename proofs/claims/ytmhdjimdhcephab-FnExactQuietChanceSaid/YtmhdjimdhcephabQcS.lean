/- The model's QuietChance and SuccessChance. -/
import Derived.Test.YtmhdjimdhcephabQcQ
import Derived.Test.YtmhdjimdhcephabDfI
namespace Go.Proofs.Ytmhdjimdhcephab
open Go Go.RowKit
set_option linter.unusedVariables false

theorem l09Chance_any (pn pd : Int) (w : World) :
    Calls Try.prog 61 #[.agg #[.int .i64 pn, .int .i64 pd]] w fun e w' => e = .returned (.bool (fIs pn pd && (decide (0 ≤ pn) && decide (pn ≤ pd)))) ∧ Below w.heap.size w w' := by
  obtain ⟨W0, hW0⟩ : ∃ W0, W0 = w.alloc (.cells #[.int .i64 pn, .int .i64 pd] 24) := ⟨_, rfl⟩
  have K0 : Hid (Below w.heap.size w W0) := by show Below _ _ _; rw [hW0]; exact (Below.refl _ _).alloc (Nat.le_refl _) _
  have X0 : Hid (Bk W0 w.heap.size [.int .i64 pn, .int .i64 pd]) := by show Bk _ _ _; rw [hW0]; exact Bk.new w [.int .i64 pn, .int .i64 pd] _ _ rfl
  have HW0 := Lib.hid hW0
  clear hW0
  have HC := Lib.hid (fun W => l01FIs_any pn pd W)
  cases g0 : fIs pn pd
  all_goals
    rw [g0] at HC
    clear g0
    obtain ⟨c0, c1⟩ := bk_twoP X0.out
    by_cases g1 : 0 ≤ pn
    all_goals
      by_cases g2 : pn ≤ pd
      all_goals
        go_enter Try.func61, Try.ntmps61
        go_wp2_with fail
        rw [← HW0.out]
        try go_wp2_with fail
        refine (HC.out _).mono ?_; rintro e w1 ⟨rfl, hb1⟩
        obtain ⟨d0, d1⟩ := bk_twoP (X0.out.keep hb1)
        have HB := Lib.hid (K0.out.trans (hb1.mono K0.out.size))
        clear hb1 c0 c1
        go_wp2_with fail
        go_ret
        exact ⟨ret_bool (by first | rfl | (rw [decide_eq_true (show 0 ≤ pn by omega)]; (try rfl); done) | (rw [decide_eq_true (show 0 ≤ pn by omega), decide_eq_true (show pn ≤ pd by omega)]; (try rfl); done) | (rw [decide_eq_true (show 0 ≤ pn by omega), decide_eq_false (show ¬ pn ≤ pd by omega)]; (try rfl); done) | (rw [decide_eq_false (show ¬ 0 ≤ pn by omega)]; (try rfl); done)), HB.out⟩

set_option maxRecDepth 100000 in
set_option maxHeartbeats 1000000 in
theorem quiet_spec (n pn pd : Int) (W : World) :
    Calls Try.prog 15 #[.int .i64 n, .agg #[.int .i64 pn, .int .i64 pd]] W fun e w' => e = .returned (.tuple #[.agg #[.int .i64 (qcS n pn pd).1, .int .i64 (qcS n pn pd).2.1], .bool (qcS n pn pd).2.2]) ∧ Below W.heap.size W w' := by
  obtain ⟨W0, hW0⟩ : ∃ W0, W0 = (W.alloc (.cells #[.int .i64 pn, .int .i64 pd] 24)).alloc (.cells #[.int .i64 0, .int .i64 0] 24) := ⟨_, rfl⟩
  have K0 : Hid (Below W.heap.size W W0) := by show Below _ _ _; rw [hW0]; exact ((Below.refl _ _).alloc (Nat.le_refl _) _).alloc (by simp) _
  have Y0 : Hid (Bk W0 W.heap.size [.int .i64 pn, .int .i64 pd]) := by show Bk _ _ _; rw [hW0]; exact (Bk.new W [.int .i64 pn, .int .i64 pd] _ _ rfl).keep ((Below.refl _ _).alloc (Nat.le_refl _) _)
  have X0 : Hid (Bk W0 (W.heap.size + 1) [.int .i64 0, .int .i64 0]) := by show Bk _ _ _; rw [hW0]; exact Bk.new _ [.int .i64 0, .int .i64 0] _ _ (by simp)
  have HW0 := Lib.hid hW0
  clear hW0
  have HC1 := Lib.hid (fun W => l09Many_any n W)
  have HC2 := Lib.hid (fun W => l09Chance_any pn pd W)
  have HSN : Hid (chB n pn pd = false → qcS n pn pd = (0, 0, false)) := by show _ → _; intro h; unfold qcS; rw [sl_eq, h]; rfl
  cases g0 : rgB 1 12 n
  · have e1 := HSN.out (by unfold chB; rw [g0]; rfl)
    rw [e1]
    rw [g0] at HC1
    clear g0 HC2 e1 HSN
    obtain ⟨r0, r1⟩ := bk_twoP X0.out
    have f0 := X0.out.f 0 (by decide)
    have f1 := X0.out.f 1 (by decide)
    obtain ⟨y0, y1⟩ := bk_twoP Y0.out
    go_enter Try.func15, Try.ntmps15
    go_wp2_with fail
    rw [← HW0.out]
    refine (HC1.out _).mono ?_; rintro e w' ⟨rfl, rfl⟩
    go_wp2_with fail
    simp [bodyPost, results, Try.results15, go_sem, r0, r1]
    first | exact (K0.out.setCell (p := ⟨W.heap.size + 1, 0, none⟩) (Nat.le_succ _) _).setCell (p := ⟨W.heap.size + 1, 1, none⟩) (Nat.le_succ _) _ | exact K0.out
  cases g1 : (fIs pn pd && (decide (0 ≤ pn) && decide (pn ≤ pd)))
  · have e1 := HSN.out (by unfold chB; rw [g1]; simp)
    rw [e1]
    rw [g0] at HC1
    rw [g1] at HC2
    clear g0 g1 e1 HSN
    obtain ⟨y0, y1⟩ := bk_twoP Y0.out
    go_enter Try.func15, Try.ntmps15
    go_wp2_with fail
    rw [← HW0.out]
    refine (HC1.out _).mono ?_; rintro e w' ⟨rfl, rfl⟩
    go_wp2_with fail
    refine (HC2.out _).mono ?_; rintro e w1 ⟨rfl, hb1⟩
    have X1 := Lib.hid (X0.out.keep hb1)
    have K1 := Lib.hid (K0.out.trans (hb1.mono K0.out.size))
    obtain ⟨r0, r1⟩ := bk_twoP X1.out
    have f0 := X1.out.f 0 (by decide)
    have f1 := X1.out.f 1 (by decide)
    clear hb1 y0 y1
    go_wp2_with fail
    simp [bodyPost, results, Try.results15, go_sem, r0, r1]
    first | exact (K1.out.setCell (p := ⟨W.heap.size + 1, 0, none⟩) (Nat.le_succ _) _).setCell (p := ⟨W.heap.size + 1, 1, none⟩) (Nat.le_succ _) _ | exact K1.out
  have hch : chB n pn pd = true := by unfold chB; rw [g0, g1]; rfl
  rw [g0] at HC1
  rw [g1] at HC2
  clear g0 g1 HSN
  obtain ⟨N, p, q, d, rfl, rfl, rfl, hd, hn1, hn12, hd0, hdM, cp, cq, hfq, hfp, s1, s2⟩ := ch_nat hch
  have hS : qcS (N : Int) (p : Int) (d : Int) = (ptN (List.replicate N q) (List.replicate N d), ptD (List.replicate N q) (List.replicate N d), ptK (List.replicate N q) (List.replicate N d)) := by
    rw [pt_lw, prN_rep, prN_rep]
    exact qc_eq hch rfl hd hd0 cq hfq s1 s2
  rw [hS]
  have HP := Lib.hid (fun W v1 v2 h1 h2 => l09Part_any W v1 v2 (List.replicate N q) (List.replicate N d) h1 h2 (by simp; omega) (by simp; omega) (by simp; omega) (by simp; omega) (fun x hx => by have := (List.mem_replicate.1 hx).2; omega) (fun x hx => by have := (List.mem_replicate.1 hx).2; omega))
  clear hS hch cp cq hfq hfp s1 s2
  generalize ptN (List.replicate N q) (List.replicate N d) = RN at *
  generalize ptD (List.replicate N q) (List.replicate N d) = RD at *
  generalize ptK (List.replicate N q) (List.replicate N d) = RK at *
  have hqd : ((d : Int) - (p : Int)) = (q : Int) := by omega
  have w0 : IntKind.i64.wrap ((d : Int) - (p : Int)) = (q : Int) := by rw [hqd]; exact IntWalk.i64_in _ (by omega)
  have HD := Lib.hid hd
  clear hd hqd
  obtain ⟨i0, hi, hz0, hz1, hz2⟩ := info_parts Try.infoInt
  obtain ⟨y0, y1⟩ := bk_twoP Y0.out
  go_enter Try.func15, Try.ntmps15
  go_wp2_with fail
  rw [← HW0.out]
  refine (HC1.out _).mono ?_; rintro e w' ⟨rfl, rfl⟩
  go_wp2_with fail
  refine (HC2.out _).mono ?_; rintro e w0' ⟨rfl, hb0⟩
  have Y1 := Lib.hid (Y0.out.keep hb0)
  have X1 := Lib.hid (X0.out.keep hb0)
  have K1 := Lib.hid (K0.out.trans (hb0.mono K0.out.size))
  clear hb0 y0 y1 X0 Y0 K0
  obtain ⟨y0, y1⟩ := bk_twoP Y1.out
  obtain ⟨W1, hW1⟩ : ∃ W1, W1 = (w0'.alloc (.cells #[] 2)).alloc (.cells #[] 2) := ⟨_, rfl⟩
  have B1 : Hid (Below w0'.heap.size w0' W1) := by show Below _ _ _; rw [hW1]; exact ((Below.refl _ _).alloc (Nat.le_refl _) _).alloc (by simp) _
  have O1 : Hid (Own W1 w0'.heap.size (.slice (some ⟨w0'.heap.size, 0, none⟩) 0 0) (cI (List.replicate 0 q))) := by
    show Own _ _ _ _
    rw [hW1]
    exact Own.keep (by
      have := World.ownsRow_lit (base := w0'.heap.size) (e := 2) (size := 1) w0' #[] 0 (Nat.le_refl _) (by decide) rfl
      simpa [cI, Own, intVals] using this) ((Below.refl _ _).alloc (Nat.le_refl _) _)
  have U1 : Hid (Own W1 w0'.heap.size (.slice (some ⟨w0'.heap.size + 1, 0, none⟩) 0 0) (cI (List.replicate 0 d))) := by
    show Own _ _ _ _
    rw [hW1]
    have := World.ownsRow_lit (base := w0'.heap.size) (e := 2) (size := 1) (w0'.alloc (.cells #[] 2)) #[] 0 (by simp) (by decide) rfl
    simpa [cI, Own, intVals] using this
  have P1 : Hid (Apart (.slice (some ⟨w0'.heap.size, 0, none⟩) 0 0) (.slice (some ⟨w0'.heap.size + 1, 0, none⟩) 0 0)) := by
    intro k h1 h2
    simp [Value.ownBlock] at h1 h2
    omega
  have HW1 := Lib.hid hW1
  have z0 : (w0'.alloc (.cells #[] 2)).cell? ⟨W.heap.size, 1, none⟩ = some (.int .i64 (d : Int)) := by
    rw [World.cell?_alloc_lt _ _ _ (World.block_lt_of_cell? _ _ y1)]; exact y1
  clear hW1
  go_wp2_with fail
  go_loopw [6, 7, 8] (fun vo vu i wr => ∃ k : Nat, k ≤ N ∧ i = .int .i64 ((k : Int)) ∧ Own wr w0'.heap.size vo (cI (List.replicate k q)) ∧ Own wr w0'.heap.size vu (cI (List.replicate k d)) ∧ Apart vo vu ∧ Below w0'.heap.size w0' wr) (fun _ _ i _ => N - (intOf i).toNat)
  case atStart => rw [← HW1.out]; exact ⟨0, Nat.zero_le _, rfl, O1.out, U1.out, P1.out, B1.out⟩
  case round =>
    obtain ⟨k, hk, rfl, ho, hu, hap, hb⟩ := hrel
    have HO := Lib.hid ho
    have HU := Lib.hid hu
    have HAP := Lib.hid hap
    have HB := Lib.hid hb
    obtain ⟨A1, c1, hv1⟩ := own_shape HO.out
    obtain ⟨A2, c2, hv2⟩ := own_shape HU.out
    have HL1 : Hid ((cI (List.replicate k q)).length = k) := by show _ = _; rw [cI_len]; simp
    have HL2 : Hid ((cI (List.replicate k d)).length = k) := by show _ = _; rw [cI_len]; simp
    rw [HL1.out] at hv1
    rw [HL2.out] at hv2
    subst hv1 hv2
    clear ho hu hap hb O1 U1 P1 B1 y0 y1 z0
    by_cases hlt : k < N
    · have hk1 : ((k : Int)) < (N : Int) := by omega
      obtain ⟨y0, y1⟩ := bk_twoP (Y1.out.keep HB.out)
      have hsz : w0'.heap.size ≤ wr.heap.size := HB.out.size
      have HSO : Hid (cI (List.replicate k q) ++ [(q : Int)] = cI (List.replicate (k + 1) q)) := by show _ = _; rw [show List.replicate (k + 1) q = (List.replicate k q) ++ [q] from (by rw [List.replicate_succ']; first | rfl | done), cI_snoc]
      have HSU : Hid (cI (List.replicate k d) ++ [(d : Int)] = cI (List.replicate (k + 1) d)) := by show _ = _; rw [show List.replicate (k + 1) d = (List.replicate k d) ++ [d] from List.replicate_succ', cI_snoc]
      have HKN := Lib.hid hlt
      have HOk : Hid (∀ o : Obj, (wr.alloc o).ownsRow w0'.heap.size 2 1 (.slice A1 (k) c1) (k) (intVals (cI (List.replicate k q)))) := by
        show ∀ _, _
        intro o
        have := World.ownsRow.alloc HO.out o
        rwa [HL1.out] at this
      go_wp2_with (at_builtin; refine wpList_append_lies _ rfl _ _ 39 rfl w0'.heap.size 2 i0 (.int .i64 0) 1 8 Try.underlying39 hi hz0 hz1 hz2 rfl (by decide) _ _ _ rfl (HOk.out _) ⟨wr.heap.size, 0, none⟩ 1 1 [.int .i64 (q : Int)] rfl rfl (c1_b _ _ _) (by intro u hu; simp at hu; subst hu; rfl) (by decide) (by unfold maxLen; omega) (by omega) (by simp; omega) (wr.heap.size + 1) (by simp) ?_)
      intro g1 cap1 w5 hown5 hgrow5 hat5 hlt5
      have HO5 : Hid (Own w5 w0'.heap.size (.slice (some ⟨g1, 0, none⟩) (k + 1) cap1) (cI (List.replicate (k + 1) q))) := by
        show Own _ _ _ _
        rw [← HSO.out]
        exact own_snocI (by rw [HL1.out]; exact hown5)
      have HU5 := Lib.hid (app_other HU.out HAP.out.symm hgrow5)
      have HAP5 := Lib.hid (app_apart (n := k + 1) (cap := cap1) HU.out HAP.out.symm hat5 (Nat.le_succ _)).symm
      have HB5 := Lib.hid (below_appN HB.out HB.out.size HO.out hgrow5)
      have hsz5 : w0'.heap.size ≤ w5.heap.size := HB5.out.size
      have HUk : Hid (∀ o : Obj, (w5.alloc o).ownsRow w0'.heap.size 2 1 (.slice A2 (k) c2) (k) (intVals (cI (List.replicate k d)))) := by
        show ∀ _, _
        intro o
        have := World.ownsRow.alloc HU5.out o
        rwa [HL2.out] at this
      clear hown5 hgrow5 hat5 hlt5 HO HU HAP HB HOk HSO y0 y1
      obtain ⟨y0, y1⟩ := bk_twoP (Y1.out.keep HB5.out)
      go_wp2_with (at_builtin; refine wpList_append_lies _ rfl _ _ 39 rfl w0'.heap.size 2 i0 (.int .i64 0) 1 8 Try.underlying39 hi hz0 hz1 hz2 rfl (by decide) _ _ _ rfl (HUk.out _) ⟨w5.heap.size, 0, none⟩ 1 1 [.int .i64 (d : Int)] rfl rfl (c1_b _ _ _) (by intro u hu; simp at hu; subst hu; rfl) (by decide) (by unfold maxLen; omega) (by omega) (by simp; omega) (w5.heap.size + 1) (by simp) ?_)
      intro g2 cap2 w6 hown6 hgrow6 hat6 hlt6
      have HU6 : Hid (Own w6 w0'.heap.size (.slice (some ⟨g2, 0, none⟩) (k + 1) cap2) (cI (List.replicate (k + 1) d))) := by
        show Own _ _ _ _
        rw [← HSU.out]
        exact own_snocI (by rw [HL2.out]; exact hown6)
      have HO6 := Lib.hid (app_other HO5.out HAP5.out hgrow6)
      have HAP6 := Lib.hid (app_apart (n := k + 1) (cap := cap2) HO5.out HAP5.out hat6 (Nat.le_succ _))
      have HB6 := Lib.hid (below_appN HB5.out HB5.out.size HU5.out hgrow6)
      clear hown6 hgrow6 hat6 hlt6 HO5 HU5 HAP5 HB5 HUk y0 y1
      go_wp2_with fail
      go_roundw
      case rel => exact ⟨k + 1, HKN.out, by go_num, HO6.out, HU6.out, HAP6.out, HB6.out⟩
      case measure => simp [intOf]; have := HKN.out; omega
    · obtain rfl : k = N := by omega
      have hk1 : ¬ ((k : Int)) < (k : Int) := by omega
      go_wp2_with fail
      refine (HP.out _ _ _ HO.out.rd HU.out.rd).mono ?_; rintro e w2 ⟨rfl, hb2⟩
      have K2 := Lib.hid (K1.out.trans ((HB.out.trans (hb2.mono HB.out.size)).mono K1.out.size))
      have X2 := Lib.hid ((X1.out.keep HB.out).keep hb2)
      clear hb2
      obtain ⟨r0, r1⟩ := bk_twoP X2.out
      have f0 := X2.out.f 0 (by decide)
      have f1 := X2.out.f 1 (by decide)
      go_wp2_with fail
      simp [bodyPost, results, Try.results15, go_sem, r0, r1]
      first | exact (K2.out.setCell (p := ⟨W.heap.size + 1, 0, none⟩) (Nat.le_succ _) _).setCell (p := ⟨W.heap.size + 1, 1, none⟩) (Nat.le_succ _) _ | exact K2.out

set_option maxRecDepth 100000 in
set_option maxHeartbeats 1000000 in
theorem success_spec (n pn pd : Int) (W : World) :
    Calls Try.prog 19 #[.int .i64 n, .agg #[.int .i64 pn, .int .i64 pd]] W fun e w' => e = .returned (.tuple #[.agg #[.int .i64 (scS n pn pd).1, .int .i64 (scS n pn pd).2.1], .bool (scS n pn pd).2.2]) ∧ Below W.heap.size W w' := by
  obtain ⟨W0, hW0⟩ : ∃ W0, W0 = (W.alloc (.cells #[.int .i64 pn, .int .i64 pd] 24)).alloc (.cells #[.int .i64 0, .int .i64 0] 24) := ⟨_, rfl⟩
  have K0 : Hid (Below W.heap.size W W0) := by show Below _ _ _; rw [hW0]; exact ((Below.refl _ _).alloc (Nat.le_refl _) _).alloc (by simp) _
  have Y0 : Hid (Bk W0 W.heap.size [.int .i64 pn, .int .i64 pd]) := by show Bk _ _ _; rw [hW0]; exact (Bk.new W [.int .i64 pn, .int .i64 pd] _ _ rfl).keep ((Below.refl _ _).alloc (Nat.le_refl _) _)
  have X0 : Hid (Bk W0 (W.heap.size + 1) [.int .i64 0, .int .i64 0]) := by show Bk _ _ _; rw [hW0]; exact Bk.new _ [.int .i64 0, .int .i64 0] _ _ (by simp)
  have HW0 := Lib.hid hW0
  clear hW0
  have HC1 := Lib.hid (fun W => l09Many_any n W)
  have HC2 := Lib.hid (fun W => l09Chance_any pn pd W)
  have HSN : Hid (chB n pn pd = false → scS n pn pd = (0, 0, false)) := by show _ → _; intro h; unfold scS; rw [sl_eq, h]; rfl
  cases g0 : rgB 1 12 n
  · have e1 := HSN.out (by unfold chB; rw [g0]; rfl)
    rw [e1]
    rw [g0] at HC1
    clear g0 HC2 e1 HSN
    obtain ⟨r0, r1⟩ := bk_twoP X0.out
    have f0 := X0.out.f 0 (by decide)
    have f1 := X0.out.f 1 (by decide)
    obtain ⟨y0, y1⟩ := bk_twoP Y0.out
    go_enter Try.func19, Try.ntmps19
    go_wp2_with fail
    rw [← HW0.out]
    refine (HC1.out _).mono ?_; rintro e w' ⟨rfl, rfl⟩
    go_wp2_with fail
    simp [bodyPost, results, Try.results19, go_sem, r0, r1]
    first | exact (K0.out.setCell (p := ⟨W.heap.size + 1, 0, none⟩) (Nat.le_succ _) _).setCell (p := ⟨W.heap.size + 1, 1, none⟩) (Nat.le_succ _) _ | exact K0.out
  cases g1 : (fIs pn pd && (decide (0 ≤ pn) && decide (pn ≤ pd)))
  · have e1 := HSN.out (by unfold chB; rw [g1]; simp)
    rw [e1]
    rw [g0] at HC1
    rw [g1] at HC2
    clear g0 g1 e1 HSN
    obtain ⟨y0, y1⟩ := bk_twoP Y0.out
    go_enter Try.func19, Try.ntmps19
    go_wp2_with fail
    rw [← HW0.out]
    refine (HC1.out _).mono ?_; rintro e w' ⟨rfl, rfl⟩
    go_wp2_with fail
    refine (HC2.out _).mono ?_; rintro e w1 ⟨rfl, hb1⟩
    have X1 := Lib.hid (X0.out.keep hb1)
    have K1 := Lib.hid (K0.out.trans (hb1.mono K0.out.size))
    obtain ⟨r0, r1⟩ := bk_twoP X1.out
    have f0 := X1.out.f 0 (by decide)
    have f1 := X1.out.f 1 (by decide)
    clear hb1 y0 y1
    go_wp2_with fail
    simp [bodyPost, results, Try.results19, go_sem, r0, r1]
    first | exact (K1.out.setCell (p := ⟨W.heap.size + 1, 0, none⟩) (Nat.le_succ _) _).setCell (p := ⟨W.heap.size + 1, 1, none⟩) (Nat.le_succ _) _ | exact K1.out
  have hch : chB n pn pd = true := by unfold chB; rw [g0, g1]; rfl
  rw [g0] at HC1
  rw [g1] at HC2
  clear g0 g1 HSN
  obtain ⟨N, p, q, d, rfl, rfl, rfl, hd, hn1, hn12, hd0, hdM, cp, cq, hfq, hfp, s1, s2⟩ := ch_nat hch
  obtain ⟨M, hM⟩ : ∃ M, M + 1 = N := ⟨N - 1, by omega⟩
  have hM1 : N - 1 = M := by omega
  have hS : scS (N : Int) (p : Int) (d : Int) = (ptN (N :: p :: List.replicate M q) (List.replicate (M + 1) d), ptD (N :: p :: List.replicate M q) (List.replicate (M + 1) d), ptK (N :: p :: List.replicate M q) (List.replicate (M + 1) d)) := by
    rw [pt_lw, show prN (N :: p :: List.replicate M q) = N * (p * q ^ M) by rw [prN, prN, prN_rep], prN_rep]
    exact (by rw [← Nat.mul_assoc, Nat.pow_succ, Nat.mul_comm (d ^ M), ← hM1]; exact sc_eq hch rfl rfl rfl hd hd0 hn1 hn12 cp cq hfq hfp s1 s2)
  rw [hS]
  have HP := Lib.hid (fun W v1 v2 h1 h2 => l09Part_any W v1 v2 (N :: p :: List.replicate M q) (List.replicate (M + 1) d) h1 h2 (by simp) (by simp) (by simp; omega) (by simp; omega) (fun x hx => by rcases List.mem_cons.1 hx with h | hx2; (subst h; omega); rcases List.mem_cons.1 hx2 with h | hx3; (subst h; omega); have := (List.mem_replicate.1 hx3).2; omega) (fun x hx => by have := (List.mem_replicate.1 hx).2; omega))
  clear hS hch cp cq hfq hfp s1 s2
  have HMN := Lib.hid hM
  clear hM hM1
  generalize ptN (N :: p :: List.replicate M q) (List.replicate (M + 1) d) = RN at *
  generalize ptD (N :: p :: List.replicate M q) (List.replicate (M + 1) d) = RD at *
  generalize ptK (N :: p :: List.replicate M q) (List.replicate (M + 1) d) = RK at *
  have hqd : ((d : Int) - (p : Int)) = (q : Int) := by omega
  have w0 : IntKind.i64.wrap ((d : Int) - (p : Int)) = (q : Int) := by rw [hqd]; exact IntWalk.i64_in _ (by omega)
  have HD := Lib.hid hd
  clear hd hqd
  obtain ⟨i0, hi, hz0, hz1, hz2⟩ := info_parts Try.infoInt
  obtain ⟨y0, y1⟩ := bk_twoP Y0.out
  go_enter Try.func19, Try.ntmps19
  go_wp2_with fail
  rw [← HW0.out]
  refine (HC1.out _).mono ?_; rintro e w' ⟨rfl, rfl⟩
  go_wp2_with fail
  refine (HC2.out _).mono ?_; rintro e w0' ⟨rfl, hb0⟩
  have Y1 := Lib.hid (Y0.out.keep hb0)
  have X1 := Lib.hid (X0.out.keep hb0)
  have K1 := Lib.hid (K0.out.trans (hb0.mono K0.out.size))
  clear hb0 y0 y1 X0 Y0 K0
  obtain ⟨y0, y1⟩ := bk_twoP Y1.out
  obtain ⟨W1, hW1⟩ : ∃ W1, W1 = (w0'.alloc (.cells #[.int .i64 (N : Int), .int .i64 (p : Int)] 2)).alloc (.cells #[.int .i64 (d : Int)] 2) := ⟨_, rfl⟩
  have B1 : Hid (Below w0'.heap.size w0' W1) := by show Below _ _ _; rw [hW1]; exact ((Below.refl _ _).alloc (Nat.le_refl _) _).alloc (by simp) _
  have O1 : Hid (Own W1 w0'.heap.size (.slice (some ⟨w0'.heap.size, 0, none⟩) 2 2) (cI (N :: p :: List.replicate 0 q))) := by
    show Own _ _ _ _
    rw [hW1]
    exact Own.keep (by
      have := World.ownsRow_lit (base := w0'.heap.size) (e := 2) (size := 1) w0' #[.int .i64 (N : Int), .int .i64 (p : Int)] 2 (Nat.le_refl _) (by decide) rfl
      simpa [cI, Own, intVals] using this) ((Below.refl _ _).alloc (Nat.le_refl _) _)
  have U1 : Hid (Own W1 w0'.heap.size (.slice (some ⟨w0'.heap.size + 1, 0, none⟩) 1 1) (cI (List.replicate (0 + 1) d))) := by
    show Own _ _ _ _
    rw [hW1]
    have := World.ownsRow_lit (base := w0'.heap.size) (e := 2) (size := 1) (w0'.alloc (.cells #[.int .i64 (N : Int), .int .i64 (p : Int)] 2)) #[.int .i64 (d : Int)] 1 (by simp) (by decide) rfl
    simpa [cI, Own, intVals] using this
  have P1 : Hid (Apart (.slice (some ⟨w0'.heap.size, 0, none⟩) 2 2) (.slice (some ⟨w0'.heap.size + 1, 0, none⟩) 1 1)) := by
    intro k h1 h2
    simp [Value.ownBlock] at h1 h2
    omega
  have HW1 := Lib.hid hW1
  have z0 : (w0'.alloc (.cells #[.int .i64 (N : Int), .int .i64 (p : Int)] 2)).cell? ⟨W.heap.size, 1, none⟩ = some (.int .i64 (d : Int)) := by
    rw [World.cell?_alloc_lt _ _ _ (World.block_lt_of_cell? _ _ y1)]; exact y1
  clear hW1
  go_wp2_with fail
  go_loopw [6, 7, 8] (fun vo vu i wr => ∃ k : Nat, k ≤ M ∧ i = .int .i64 ((k : Int) + 1) ∧ Own wr w0'.heap.size vo (cI (N :: p :: List.replicate k q)) ∧ Own wr w0'.heap.size vu (cI (List.replicate (k + 1) d)) ∧ Apart vo vu ∧ Below w0'.heap.size w0' wr) (fun _ _ i _ => N - (intOf i).toNat)
  case atStart => rw [← HW1.out]; exact ⟨0, Nat.zero_le _, rfl, O1.out, U1.out, P1.out, B1.out⟩
  case round =>
    obtain ⟨k, hk, rfl, ho, hu, hap, hb⟩ := hrel
    have HO := Lib.hid ho
    have HU := Lib.hid hu
    have HAP := Lib.hid hap
    have HB := Lib.hid hb
    obtain ⟨A1, c1, hv1⟩ := own_shape HO.out
    obtain ⟨A2, c2, hv2⟩ := own_shape HU.out
    have HL1 : Hid ((cI (N :: p :: List.replicate k q)).length = k + 2) := by show _ = _; rw [cI_len]; simp
    have HL2 : Hid ((cI (List.replicate (k + 1) d)).length = k + 1) := by show _ = _; rw [cI_len]; simp
    rw [HL1.out] at hv1
    rw [HL2.out] at hv2
    subst hv1 hv2
    clear ho hu hap hb O1 U1 P1 B1 y0 y1 z0
    by_cases hlt : k < M
    · have hk1 : ((k : Int) + 1) < (N : Int) := by have := HMN.out; omega
      obtain ⟨y0, y1⟩ := bk_twoP (Y1.out.keep HB.out)
      have hsz : w0'.heap.size ≤ wr.heap.size := HB.out.size
      have HSO : Hid (cI (N :: p :: List.replicate k q) ++ [(q : Int)] = cI (N :: p :: List.replicate (k + 1) q)) := by show _ = _; rw [show N :: p :: List.replicate (k + 1) q = (N :: p :: List.replicate k q) ++ [q] from (by rw [List.replicate_succ']; first | rfl | done), cI_snoc]
      have HSU : Hid (cI (List.replicate (k + 1) d) ++ [(d : Int)] = cI (List.replicate ((k + 1) + 1) d)) := by show _ = _; rw [show List.replicate ((k + 1) + 1) d = (List.replicate (k + 1) d) ++ [d] from List.replicate_succ', cI_snoc]
      have HKN := Lib.hid hlt
      have HOk : Hid (∀ o : Obj, (wr.alloc o).ownsRow w0'.heap.size 2 1 (.slice A1 (k + 2) c1) (k + 2) (intVals (cI (N :: p :: List.replicate k q)))) := by
        show ∀ _, _
        intro o
        have := World.ownsRow.alloc HO.out o
        rwa [HL1.out] at this
      go_wp2_with (at_builtin; refine wpList_append_lies _ rfl _ _ 39 rfl w0'.heap.size 2 i0 (.int .i64 0) 1 8 Try.underlying39 hi hz0 hz1 hz2 rfl (by decide) _ _ _ rfl (HOk.out _) ⟨wr.heap.size, 0, none⟩ 1 1 [.int .i64 (q : Int)] rfl rfl (c1_b _ _ _) (by intro u hu; simp at hu; subst hu; rfl) (by decide) (by unfold maxLen; omega) (by omega) (by simp; omega) (wr.heap.size + 1) (by simp) ?_)
      intro g1 cap1 w5 hown5 hgrow5 hat5 hlt5
      have HO5 : Hid (Own w5 w0'.heap.size (.slice (some ⟨g1, 0, none⟩) (k + 2 + 1) cap1) (cI (N :: p :: List.replicate (k + 1) q))) := by
        show Own _ _ _ _
        rw [← HSO.out]
        exact own_snocI (by rw [HL1.out]; exact hown5)
      have HU5 := Lib.hid (app_other HU.out HAP.out.symm hgrow5)
      have HAP5 := Lib.hid (app_apart (n := k + 2 + 1) (cap := cap1) HU.out HAP.out.symm hat5 (Nat.le_succ _)).symm
      have HB5 := Lib.hid (below_appN HB.out HB.out.size HO.out hgrow5)
      have hsz5 : w0'.heap.size ≤ w5.heap.size := HB5.out.size
      have HUk : Hid (∀ o : Obj, (w5.alloc o).ownsRow w0'.heap.size 2 1 (.slice A2 (k + 1) c2) (k + 1) (intVals (cI (List.replicate (k + 1) d)))) := by
        show ∀ _, _
        intro o
        have := World.ownsRow.alloc HU5.out o
        rwa [HL2.out] at this
      clear hown5 hgrow5 hat5 hlt5 HO HU HAP HB HOk HSO y0 y1
      obtain ⟨y0, y1⟩ := bk_twoP (Y1.out.keep HB5.out)
      go_wp2_with (at_builtin; refine wpList_append_lies _ rfl _ _ 39 rfl w0'.heap.size 2 i0 (.int .i64 0) 1 8 Try.underlying39 hi hz0 hz1 hz2 rfl (by decide) _ _ _ rfl (HUk.out _) ⟨w5.heap.size, 0, none⟩ 1 1 [.int .i64 (d : Int)] rfl rfl (c1_b _ _ _) (by intro u hu; simp at hu; subst hu; rfl) (by decide) (by unfold maxLen; omega) (by omega) (by simp; omega) (w5.heap.size + 1) (by simp) ?_)
      intro g2 cap2 w6 hown6 hgrow6 hat6 hlt6
      have HU6 : Hid (Own w6 w0'.heap.size (.slice (some ⟨g2, 0, none⟩) (k + 1 + 1) cap2) (cI (List.replicate ((k + 1) + 1) d))) := by
        show Own _ _ _ _
        rw [← HSU.out]
        exact own_snocI (by rw [HL2.out]; exact hown6)
      have HO6 := Lib.hid (app_other HO5.out HAP5.out hgrow6)
      have HAP6 := Lib.hid (app_apart (n := k + 1 + 1) (cap := cap2) HO5.out HAP5.out hat6 (Nat.le_succ _))
      have HB6 := Lib.hid (below_appN HB5.out HB5.out.size HU5.out hgrow6)
      clear hown6 hgrow6 hat6 hlt6 HO5 HU5 HAP5 HB5 HUk y0 y1
      go_wp2_with fail
      go_roundw
      case rel => exact ⟨k + 1, HKN.out, by go_num, HO6.out, HU6.out, HAP6.out, HB6.out⟩
      case measure => simp [intOf]; have := HKN.out; have := HMN.out; omega
    · obtain rfl : k = M := by omega
      have hk1 : ¬ ((k : Int) + 1) < (N : Int) := by have := HMN.out; omega
      go_wp2_with fail
      refine (HP.out _ _ _ HO.out.rd HU.out.rd).mono ?_; rintro e w2 ⟨rfl, hb2⟩
      have K2 := Lib.hid (K1.out.trans ((HB.out.trans (hb2.mono HB.out.size)).mono K1.out.size))
      have X2 := Lib.hid ((X1.out.keep HB.out).keep hb2)
      clear hb2
      obtain ⟨r0, r1⟩ := bk_twoP X2.out
      have f0 := X2.out.f 0 (by decide)
      have f1 := X2.out.f 1 (by decide)
      go_wp2_with fail
      simp [bodyPost, results, Try.results19, go_sem, r0, r1]
      first | exact (K2.out.setCell (p := ⟨W.heap.size + 1, 0, none⟩) (Nat.le_succ _) _).setCell (p := ⟨W.heap.size + 1, 1, none⟩) (Nat.le_succ _) _ | exact K2.out
end Go.Proofs.Ytmhdjimdhcephab
