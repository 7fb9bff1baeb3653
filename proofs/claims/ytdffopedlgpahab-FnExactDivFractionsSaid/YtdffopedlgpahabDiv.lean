/- Both quotients of fractions. -/
import Derived.Test.YtdffopedlgpahabMulC
namespace Go.Proofs.Ytdffopedlgpahab
open Go Go.RowKit
set_option linter.unusedVariables false

def dvOk (gn gd : Int) : Prop := fIs gn gd = true ∧ gn ≠ 0
instance (gn gd : Int) : Decidable (dvOk gn gd) := inferInstanceAs (Decidable (_ ∧ _))
def dvN (fn fd gn gd : Int) : Int := if dvOk gn gd then mlN fn fd (mkN gd gn) (mkD gd gn) else 0
def dvD (fn fd gn gd : Int) : Int := if dvOk gn gd then mlD fn fd (mkN gd gn) (mkD gd gn) else 0
def dvB (fn fd gn gd : Int) : Bool := if dvOk gn gd then mlB fn fd (mkN gd gn) (mkD gd gn) else false

/-- A fraction that is turned is one. -/
theorem turned_ok {gn gd : Int} (h : fIs gn gd = true) (h0 : gn ≠ 0) : fIs (mkN gd gn) (mkD gd gn) = true := by
  obtain ⟨g1, g2, g3, g4, g5⟩ := of_decide_eq_true h
  have hg : Nat.gcd gd.natAbs gn.natAbs = 1 := by rw [Nat.gcd_comm]; exact g5
  have e1 : mkN gd gn = if gn < 0 then -gd else gd := by unfold mkN; rw [hg]; simp
  have e2 : mkD gd gn = (gn.natAbs : Int) := by unfold mkD; rw [hg]; simp
  rw [e1, e2]
  refine decide_eq_true ⟨by omega, by omega, by split <;> omega, by split <;> omega, ?_⟩
  rw [show (if gn < 0 then -gd else gd).natAbs = gd.natAbs from by split <;> omega, show ((gn.natAbs : Int)).natAbs = gn.natAbs from by omega]
  exact hg

theorem div_no {fn fd gn gd : Int} (h : ¬ dvOk gn gd) : dvN fn fd gn gd = 0 ∧ dvD fn fd gn gd = 0 ∧ dvB fn fd gn gd = false := ⟨if_neg h, if_neg h, if_neg h⟩
theorem ml_no {fn fd gn gd : Int} (h : ¬ mlOk fn fd gn gd) : mlN fn fd gn gd = 0 ∧ mlD fn fd gn gd = 0 ∧ mlB fn fd gn gd = false := ⟨if_neg h, if_neg h, if_neg h⟩

set_option maxHeartbeats 1600000 in
set_option maxRecDepth 100000 in
theorem div_impl (fn fd gn gd : Int) (w : World) (wf1 : -9223372036854775808 ≤ fn) (wf2 : fn ≤ 9223372036854775807) (wg1 : -9223372036854775808 ≤ gn) (wg2 : gn ≤ 9223372036854775807) :
    Calls Try.prog 40 #[.agg #[.int .i64 fn, .int .i64 fd], .agg #[.int .i64 gn, .int .i64 gd]] w fun e w' => e = .returned (.tuple #[.agg #[.int .i64 (dvN fn fd gn gd), .int .i64 (dvD fn fd gn gd)], .bool (dvB fn fd gn gd)]) ∧ Below w.heap.size w w' := by
  have F0 := Lib.hid (fbox_alloc (fbox_alloc (fbox_new w (.int .i64 fn) (.int .i64 fd) 39) (.cells #[.int .i64 gn, .int .i64 gd] 39)) (.cells #[.int .i64 0, .int .i64 0] 39))
  have G0 := Lib.hid (fbox_alloc (fbox_new (w.alloc (.cells #[.int .i64 fn, .int .i64 fd] 39)) (.int .i64 gn) (.int .i64 gd) 39) (.cells #[.int .i64 0, .int .i64 0] 39))
  have R0 := Lib.hid (fbox_new ((w.alloc (.cells #[.int .i64 fn, .int .i64 fd] 39)).alloc (.cells #[.int .i64 gn, .int .i64 gd] 39)) (.int .i64 0) (.int .i64 0) 39)
  have B0 := Lib.hid (balloc (balloc (balloc (Below.refl w.heap.size w) (.cells #[.int .i64 fn, .int .i64 fd] 39)) (.cells #[.int .i64 gn, .int .i64 gd] 39)) (.cells #[.int .i64 0, .int .i64 0] 39))
  cases hg : fIs gn gd
  · have HG := Lib.hid hg
    obtain ⟨e1, e2, e3⟩ := div_no (fn := fn) (fd := fd) (gn := gn) (gd := gd) (fun h => by rw [h.1] at hg; cases hg)
    rw [e1, e2, e3]
    clear e1 e2 e3 hg
    go_enter Try.func40, Try.ntmps40
    go_wp2_with fail
    refine (validFraction_impl _ _ _ wg1 wg2).mono ?_; rintro e w1 ⟨rfl, hb1⟩
    rw [HG.out]
    have R1 := Lib.hid (fbox_keep R0.out hb1)
    have B1 := Lib.hid (bnext B0.out hb1)
    clear hb1
    obtain ⟨⟨q0, q1, -⟩, q2, q3⟩ := R1.out
    simp at q0 q1 q2 q3
    go_wp2_with fail
    refine bodyPost_ret (v := .tuple #[.agg #[.int .i64 0, .int .i64 0], .bool false]) (by simp [results, Try.results40, go_sem, q0, q1]) rfl ⟨rfl, ?_⟩
    exact (B1.out.setCell (by simp; omega) _).setCell (by simp; omega) _
  · have HG := Lib.hid hg
    obtain ⟨⟨g3, g4⟩, g1, g2⟩ := fIs_bd hg
    by_cases h0 : gn = 0
    · obtain ⟨e1, e2, e3⟩ := div_no (fn := fn) (fd := fd) (gn := gn) (gd := gd) (fun h => h.2 h0)
      have HM := Lib.hid (fun W => make_no_impl gd gn W (fun e => e.1 h0))
      rw [e1, e2, e3]
      clear e1 e2 e3 hg h0
      go_enter Try.func40, Try.ntmps40
      go_wp2_with fail
      refine (validFraction_impl _ _ _ wg1 wg2).mono ?_; rintro e w1 ⟨rfl, hb1⟩
      rw [HG.out]
      have G1 := Lib.hid (fbox_keep G0.out hb1)
      have R1 := Lib.hid (fbox_keep R0.out hb1)
      have B1 := Lib.hid (bnext B0.out hb1)
      clear hb1
      obtain ⟨⟨q0, q1, -⟩, q2, q3⟩ := G1.out
      simp at q0 q1 q2 q3
      go_wp2_with fail
      refine (HM.out _).mono ?_; rintro e w2 ⟨rfl, hb2⟩
      have R2 := Lib.hid (fbox_alloc (fbox_keep R1.out hb2) (.cells #[.int .i64 0, .int .i64 0] 39))
      have B2 := Lib.hid (balloc (bnext B1.out hb2) (.cells #[.int .i64 0, .int .i64 0] 39))
      clear hb2 q0 q1 q2 q3
      obtain ⟨⟨q0, q1, -⟩, q2, q3⟩ := R2.out
      simp only [World.size_alloc] at q0 q1 q2 q3
      go_wp2_with fail
      refine bodyPost_ret (v := .tuple #[.agg #[.int .i64 0, .int .i64 0], .bool false]) (by simp [results, Try.results40, go_sem, q0, q1]) rfl ⟨rfl, ?_⟩
      exact (B2.out.setCell (by simp; omega) _).setCell (by simp; omega) _
    · have e1 : dvN fn fd gn gd = mlN fn fd (mkN gd gn) (mkD gd gn) := if_pos ⟨hg, h0⟩
      have e2 : dvD fn fd gn gd = mlD fn fd (mkN gd gn) (mkD gd gn) := if_pos ⟨hg, h0⟩
      have e3 : dvB fn fd gn gd = mlB fn fd (mkN gd gn) (mkD gd gn) := if_pos ⟨hg, h0⟩
      obtain ⟨⟨t3, t4⟩, t1, t2⟩ := fIs_bd (turned_ok hg h0)
      have HM := Lib.hid (fun W => make_yes_impl gd gn W h0 (by omega) g4 g1 g2)
      have HU := Lib.hid (fun W => mul_impl fn fd (mkN gd gn) (mkD gd gn) W wf1 wf2 (by omega) (by omega))
      rw [e1, e2, e3]
      clear e1 e2 e3 hg h0
      generalize mkN gd gn = C at *
      generalize mkD gd gn = D at *
      generalize mlN fn fd C D = X at *
      generalize mlD fn fd C D = Y at *
      generalize mlB fn fd C D = Z at *
      go_enter Try.func40, Try.ntmps40
      go_wp2_with fail
      refine (validFraction_impl _ _ _ wg1 wg2).mono ?_; rintro e w1 ⟨rfl, hb1⟩
      rw [HG.out]
      have F1 := Lib.hid (fbox_keep F0.out hb1)
      have G1 := Lib.hid (fbox_keep G0.out hb1)
      have R1 := Lib.hid (fbox_keep R0.out hb1)
      have B1 := Lib.hid (bnext B0.out hb1)
      clear hb1
      obtain ⟨⟨q0, q1, -⟩, q2, q3⟩ := G1.out
      simp at q0 q1 q2 q3
      go_wp2_with fail
      refine (HM.out _).mono ?_; rintro e w2 ⟨rfl, hb2⟩
      have F2 := Lib.hid (fbox_alloc (fbox_keep F1.out hb2) (.cells #[.int .i64 C, .int .i64 D] 39))
      have C2 := Lib.hid (fbox_new w2 (.int .i64 C) (.int .i64 D) 39)
      have R2 := Lib.hid (fbox_alloc (fbox_keep R1.out hb2) (.cells #[.int .i64 C, .int .i64 D] 39))
      have B2 := Lib.hid (balloc (bnext B1.out hb2) (.cells #[.int .i64 C, .int .i64 D] 39))
      clear hb2 q0 q1 q2 q3
      obtain ⟨⟨q0, q1, -⟩, -, -⟩ := F2.out
      obtain ⟨⟨q2, q3, -⟩, -, -⟩ := C2.out
      go_wp2_with fail
      refine (HU.out _).mono ?_; rintro e w3 ⟨rfl, hb3⟩
      have R3 := Lib.hid (fbox_keep R2.out hb3)
      have B3 := Lib.hid (bnext B2.out hb3)
      clear hb3 q0 q1 q2 q3
      obtain ⟨⟨q0, q1, -⟩, q2, q3⟩ := R3.out
      simp only [World.size_alloc] at q0 q1 q2 q3
      go_wp2_with fail
      refine bodyPost_ret (v := .tuple #[.agg #[.int .i64 X, .int .i64 Y], .bool Z]) (by simp [results, Try.results40, go_sem, q0, q1]) rfl ⟨rfl, ?_⟩
      exact (B3.out.setCell (by simp; omega) _).setCell (by simp; omega) _

set_option maxHeartbeats 1600000 in
set_option maxRecDepth 100000 in
theorem div_spec (fn fd gn gd : Int) (w : World) :
    Calls Try.prog 39 #[.agg #[.int .i64 fn, .int .i64 fd], .agg #[.int .i64 gn, .int .i64 gd]] w fun e w' => e = .returned (.tuple #[.agg #[.int .i64 (dvN fn fd gn gd), .int .i64 (dvD fn fd gn gd)], .bool (dvB fn fd gn gd)]) ∧ Below w.heap.size w w' := by
  have F0 := Lib.hid (fbox_alloc (fbox_alloc (fbox_new w (.int .i64 fn) (.int .i64 fd) 39) (.cells #[.int .i64 gn, .int .i64 gd] 39)) (.cells #[.int .i64 0, .int .i64 0] 39))
  have G0 := Lib.hid (fbox_alloc (fbox_new (w.alloc (.cells #[.int .i64 fn, .int .i64 fd] 39)) (.int .i64 gn) (.int .i64 gd) 39) (.cells #[.int .i64 0, .int .i64 0] 39))
  have R0 := Lib.hid (fbox_new ((w.alloc (.cells #[.int .i64 fn, .int .i64 fd] 39)).alloc (.cells #[.int .i64 gn, .int .i64 gd] 39)) (.int .i64 0) (.int .i64 0) 39)
  have B0 := Lib.hid (balloc (balloc (balloc (Below.refl w.heap.size w) (.cells #[.int .i64 fn, .int .i64 fd] 39)) (.cells #[.int .i64 gn, .int .i64 gd] 39)) (.cells #[.int .i64 0, .int .i64 0] 39))
  have hno : ¬ (fIs fn fd = true ∧ dvOk gn gd) → dvN fn fd gn gd = 0 ∧ dvD fn fd gn gd = 0 ∧ dvB fn fd gn gd = false := by
    intro h
    by_cases hd : dvOk gn gd
    · have hm : ¬ mlOk fn fd (mkN gd gn) (mkD gd gn) := fun e => h ⟨e.1, hd⟩
      obtain ⟨a, b, c⟩ := ml_no hm
      refine ⟨?_, ?_, ?_⟩
      · unfold dvN; rw [if_pos hd, a]
      · unfold dvD; rw [if_pos hd, b]
      · unfold dvB; rw [if_pos hd, c]
    · exact div_no hd
  cases hf : fIs fn fd
  · have HF := Lib.hid hf
    obtain ⟨e1, e2, e3⟩ := hno (fun h => by rw [h.1] at hf; cases hf)
    rw [e1, e2, e3]
    clear e1 e2 e3 hf hno
    go_enter Try.func39, Try.ntmps39
    go_wp2_with fail
    refine (l01FIs_any _ _ _).mono ?_; rintro e w1 ⟨rfl, hb1⟩
    rw [HF.out]
    have R1 := Lib.hid (fbox_keep R0.out hb1)
    have B1 := Lib.hid (bnext B0.out hb1)
    clear hb1
    obtain ⟨⟨q0, q1, -⟩, q2, q3⟩ := R1.out
    simp at q0 q1 q2 q3
    go_wp2_with fail
    refine bodyPost_ret (v := .tuple #[.agg #[.int .i64 0, .int .i64 0], .bool false]) (by simp [results, Try.results39, go_sem, q0, q1]) rfl ⟨rfl, ?_⟩
    exact (B1.out.setCell (by simp; omega) _).setCell (by simp; omega) _
  · have HF := Lib.hid hf
    cases hg : fIs gn gd
    · have HG := Lib.hid hg
      obtain ⟨e1, e2, e3⟩ := hno (fun h => by rw [h.2.1] at hg; cases hg)
      rw [e1, e2, e3]
      clear e1 e2 e3 hf hg hno
      go_enter Try.func39, Try.ntmps39
      go_wp2_with fail
      refine (l01FIs_any _ _ _).mono ?_; rintro e w1 ⟨rfl, hb1⟩
      rw [HF.out]
      have G1 := Lib.hid (fbox_keep G0.out hb1)
      have R1 := Lib.hid (fbox_keep R0.out hb1)
      have B1 := Lib.hid (bnext B0.out hb1)
      clear hb1
      obtain ⟨⟨q0, q1, -⟩, -, -⟩ := G1.out
      simp at q0 q1
      go_wp2_with fail
      refine (l01FIs_any _ _ _).mono ?_; rintro e w2 ⟨rfl, hb2⟩
      rw [HG.out]
      have R2 := Lib.hid (fbox_keep R1.out hb2)
      have B2 := Lib.hid (bnext B1.out hb2)
      clear hb2 q0 q1
      obtain ⟨⟨q0, q1, -⟩, q2, q3⟩ := R2.out
      simp at q0 q1 q2 q3
      go_wp2_with fail
      refine bodyPost_ret (v := .tuple #[.agg #[.int .i64 0, .int .i64 0], .bool false]) (by simp [results, Try.results39, go_sem, q0, q1]) rfl ⟨rfl, ?_⟩
      exact (B2.out.setCell (by simp; omega) _).setCell (by simp; omega) _
    · have HG := Lib.hid hg
      by_cases h0 : gn = 0
      · obtain ⟨e1, e2, e3⟩ := hno (fun h => h.2.2 h0)
        rw [e1, e2, e3]
        have hz : (gn == 0) = true := beq_t h0
        clear e1 e2 e3 hf hg hno h0
        go_enter Try.func39, Try.ntmps39
        go_wp2_with fail
        refine (l01FIs_any _ _ _).mono ?_; rintro e w1 ⟨rfl, hb1⟩
        rw [HF.out]
        have G1 := Lib.hid (fbox_keep G0.out hb1)
        have R1 := Lib.hid (fbox_keep R0.out hb1)
        have B1 := Lib.hid (bnext B0.out hb1)
        clear hb1
        obtain ⟨⟨q0, q1, -⟩, -, -⟩ := G1.out
        simp at q0 q1
        go_wp2_with fail
        refine (l01FIs_any _ _ _).mono ?_; rintro e w2 ⟨rfl, hb2⟩
        rw [HG.out]
        have G2 := Lib.hid (fbox_keep G1.out hb2)
        have R2 := Lib.hid (fbox_keep R1.out hb2)
        have B2 := Lib.hid (bnext B1.out hb2)
        clear hb2 q0 q1
        obtain ⟨⟨q0, q1, -⟩, q2, q3⟩ := R2.out
        obtain ⟨⟨q4, q5, -⟩, -, -⟩ := G2.out
        simp at q0 q1 q2 q3 q4 q5
        go_wp2_with fail
        refine bodyPost_ret (v := .tuple #[.agg #[.int .i64 0, .int .i64 0], .bool false]) (by simp [results, Try.results39, go_sem, q0, q1]) rfl ⟨rfl, ?_⟩
        exact (B2.out.setCell (by simp; omega) _).setCell (by simp; omega) _
      · have hz : (gn == 0) = false := beq_f h0
        obtain ⟨⟨f3, f4⟩, f1, f2⟩ := fIs_bd hf
        obtain ⟨⟨g3, g4⟩, g1, g2⟩ := fIs_bd hg
        have hu := turned_ok hg h0
        obtain ⟨⟨t3, t4⟩, t1, t2⟩ := fIs_bd hu
        have hm : mlOk fn fd (mkN gd gn) (mkD gd gn) := ⟨hf, hu⟩
        have e1 : dvN fn fd gn gd = foN (mkN fn (mkD gd gn) * mkN (mkN gd gn) fd) (mkD fn (mkD gd gn) * mkD (mkN gd gn) fd) := by unfold dvN mlN; rw [if_pos ⟨hg, h0⟩, if_pos hm]
        have e2 : dvD fn fd gn gd = foD (mkN fn (mkD gd gn) * mkN (mkN gd gn) fd) (mkD fn (mkD gd gn) * mkD (mkN gd gn) fd) := by unfold dvD mlD; rw [if_pos ⟨hg, h0⟩, if_pos hm]
        have e3 : dvB fn fd gn gd = (ptB (mkN fn (mkD gd gn) * mkN (mkN gd gn) fd) && ptB (mkD fn (mkD gd gn) * mkD (mkN gd gn) fd)) := by unfold dvB mlB; rw [if_pos ⟨hg, h0⟩, if_pos hm]
        have HM := Lib.hid (fun W => l01FMake_any gd gn W h0 (by omega) g4 g1 g2)
        have HU := Lib.hid (fun W => l01FMul_any fn fd (mkN gd gn) (mkD gd gn) W f1 f2 f3 f4 t1 t2 t3 t4)
        rw [e1, e2, e3]
        clear e1 e2 e3 hf hg hno h0 hu hm
        generalize mkN gd gn = C at *
        generalize mkD gd gn = D at *
        generalize foN (mkN fn D * mkN C fd) (mkD fn D * mkD C fd) = X at *
        generalize foD (mkN fn D * mkN C fd) (mkD fn D * mkD C fd) = Y at *
        generalize (ptB (mkN fn D * mkN C fd) && ptB (mkD fn D * mkD C fd)) = Z at *
        go_enter Try.func39, Try.ntmps39
        go_wp2_with fail
        refine (l01FIs_any _ _ _).mono ?_; rintro e w1 ⟨rfl, hb1⟩
        rw [HF.out]
        have F1 := Lib.hid (fbox_keep F0.out hb1)
        have G1 := Lib.hid (fbox_keep G0.out hb1)
        have R1 := Lib.hid (fbox_keep R0.out hb1)
        have B1 := Lib.hid (bnext B0.out hb1)
        clear hb1
        obtain ⟨⟨q0, q1, -⟩, -, -⟩ := G1.out
        simp at q0 q1
        go_wp2_with fail
        refine (l01FIs_any _ _ _).mono ?_; rintro e w2 ⟨rfl, hb2⟩
        rw [HG.out]
        have F2 := Lib.hid (fbox_keep F1.out hb2)
        have G2 := Lib.hid (fbox_keep G1.out hb2)
        have R2 := Lib.hid (fbox_keep R1.out hb2)
        have B2 := Lib.hid (bnext B1.out hb2)
        clear hb2 q0 q1
        have ht : T3 w w2.drew w.heap.size (w.heap.size + 1) (w.heap.size + 1 + 1) (.int .i64 fn) (.int .i64 fd) (.int .i64 gn) (.int .i64 gd) (.int .i64 0) (.int .i64 0) := by
          have h := T3.keep (w := w) ⟨F2.out, G2.out, R2.out, B2.out⟩ (Below.refl _ _).drew
          simp only [World.size_alloc] at h
          exact h
        obtain ⟨⟨q0, q1, -⟩, -, -⟩ := F2.out
        obtain ⟨⟨q2, q3, -⟩, -, -⟩ := G2.out
        simp at q0 q1 q2 q3
        go_wp2_with fail
        go_region_held3 (fun w' => w'.cell? ⟨w.heap.size, 0, none⟩ = some (.int .i64 fn) ∧ w'.cell? ⟨w.heap.size, 1, none⟩ = some (.int .i64 fd) ∧ w'.cell? ⟨w.heap.size + 1, 0, none⟩ = some (.int .i64 gn) ∧ w'.cell? ⟨w.heap.size + 1, 1, none⟩ = some (.int .i64 gd)) ((first | (simp [*]; done) | (refine ⟨?_, ?_, ?_, ?_⟩ <;> (rw [World.cell?_setCell_far _ _ _ _ (by simp <;> omega), World.cell?_setCell_far _ _ _ _ (by simp <;> omega)]; assumption))))
          (first
            | (go_at_call 63; refine (HM.out _).mono ?_; rintro e w8 ⟨rfl, hb8⟩; have t8 := T3.keep ht hb8; have tt := t8; obtain ⟨⟨⟨z0, z1, -⟩, -, -⟩, ⟨⟨z2, z3, -⟩, -, -⟩, -, -⟩ := tt)
            | (go_at_call 71; refine (HU.out _).mono ?_; rintro e w9 ⟨rfl, hb9⟩; have t9 := T3.keep t8 hb9; have tt := t9; obtain ⟨⟨⟨z0, z1, -⟩, -, -⟩, ⟨⟨z2, z3, -⟩, -, -⟩, ⟨⟨z6, z7, -⟩, z4, z5⟩, -⟩ := tt)
            | fail)
        have tb := t9.2.2.2
        go_wp2_with fail
        refine bodyPost_ret (v := .tuple #[.agg #[.int .i64 X, .int .i64 Y], .bool Z]) (by simp [results, Try.results39, go_sem, z6, z7]) rfl ⟨rfl, ?_⟩
        exact (tb.setCell (by simp; omega) _).setCell (by simp; omega) _
end Go.Proofs.Ytdffopedlgpahab
