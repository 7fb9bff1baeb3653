/- The program's sum of fractions: unfinished. -/
import Derived.Test.YtnpigefbdadjfaaDoorAdP
import Derived.Deep.RegionHeld3
namespace Go.Proofs.YtnpigefbdadjfaaDoor
open Go Go.RowKit
set_option linter.unusedVariables false

set_option maxRecDepth 100000 in
set_option maxHeartbeats 16000000 in
theorem add_yes (fn gn : Int) (fd gd : Nat) (w : World) (hf : fIs fn fd = true) (hg : fIs gn gd = true) :
    Calls Tryd.prog 22 #[.agg #[.int .i64 fn, .int .i64 fd], .agg #[.int .i64 gn, .int .i64 gd]] w fun e w' => e = .returned (.tuple #[.agg #[.int .i64 (foN (adN fn gn fd gd) (adM fn gn fd gd)), .int .i64 (foD (adN fn gn fd gd) (adM fn gn fd gd))], .bool (ptB (adN fn gn fd gd) && ptB (adM fn gn fd gd))]) ∧ Below w.heap.size w w' := by
  have F0 := Lib.hid (fbox_alloc (fbox_alloc (fbox_new w (.int .i64 fn) (.int .i64 fd) 36) (.cells #[.int .i64 gn, .int .i64 gd] 36)) (.cells #[.int .i64 0, .int .i64 0] 36))
  have G0 := Lib.hid (fbox_alloc (fbox_new (w.alloc (.cells #[.int .i64 fn, .int .i64 fd] 36)) (.int .i64 gn) (.int .i64 gd) 36) (.cells #[.int .i64 0, .int .i64 0] 36))
  have R0 := Lib.hid (fbox_new ((w.alloc (.cells #[.int .i64 fn, .int .i64 fd] 36)).alloc (.cells #[.int .i64 gn, .int .i64 gd] 36)) (.int .i64 0) (.int .i64 0) 36)
  have B0 := Lib.hid (balloc (balloc (balloc (Below.refl w.heap.size w) (.cells #[.int .i64 fn, .int .i64 fd] 36)) (.cells #[.int .i64 gn, .int .i64 gd] 36)) (.cells #[.int .i64 0, .int .i64 0] 36))
  have HF := Lib.hid hf
  have HG := Lib.hid hg
  obtain ⟨⟨f3, f4⟩, f1, f2⟩ := fIs_bd hf
  obtain ⟨⟨g3, g4⟩, g1, g2⟩ := fIs_bd hg
  have hd0 : 0 < Nat.gcd fd gd := Nat.gcd_pos_of_pos_left _ (by omega)
  have hd1 : Nat.gcd fd gd ≤ fd := Nat.gcd_le_left _ (by omega)
  have HC1 := Lib.hid (fun W => commonDivisor_any (fd : Int) (gd : Int) W (by omega) (by omega) (by omega) (by omega))
  simp only [Int.toNat_natCast] at HC1
  obtain ⟨d, hd⟩ : ∃ d, d = Nat.gcd fd gd := ⟨_, rfl⟩
  obtain ⟨S, hS⟩ : ∃ S, S = adS fn gn fd gd := ⟨_, rfl⟩
  obtain ⟨T, hT⟩ : ∃ T, T = adT fn gn fd gd := ⟨_, rfl⟩
  have hS' : S = Nat.gcd (T.natAbs % d) d := by rw [hS, hT, hd]; rfl
  rw [← hd] at hd0 hd1 HC1
  have hs0 : 0 < S := by rw [hS']; exact Nat.gcd_pos_of_pos_right _ hd0
  have hs1 : S ≤ d := by rw [hS']; exact Nat.gcd_le_right _ hd0
  have he1 := Nat.div_le_self gd d
  have he2 := Nat.div_le_self fd d
  have he3 := Nat.div_le_self gd S
  have hr1 := Nat.mod_lt T.natAbs hd0
  have c6 : IntKind.i64.wrap (Int.tdiv (gd : Int) (d : Int)) = ((gd / d : Nat) : Int) := by
    rw [tdiv_nat]; generalize gd / d = x at *; exact IntWalk.i64_in _ (by omega)
  have c7 : IntKind.i64.wrap (Int.tdiv (fd : Int) (d : Int)) = ((fd / d : Nat) : Int) := by
    rw [tdiv_nat]; generalize fd / d = x at *; exact IntWalk.i64_in _ (by omega)
  have c8 : IntKind.i64.wrap (Int.tdiv (gd : Int) (S : Int)) = ((gd / S : Nat) : Int) := by
    rw [tdiv_nat]; generalize gd / S = x at *; exact IntWalk.i64_in _ (by omega)
  have hTe : T = fn * ((gd / d : Nat) : Int) + gn * ((fd / d : Nat) : Int) := by rw [hT, hd]; rfl
  have eN : adN fn gn fd gd = ovV T S := by rw [hS, hT]; rfl
  have eM : adM fn gn fd gd = ((fd / d : Nat) : Int) * ((gd / S : Nat) : Int) := by rw [hS, hd]; rfl
  rw [eN, eM]
  clear eN eM hS hT hd
  generalize gd / d = ea at *
  generalize fd / d = eb at *
  generalize gd / S = ec at *
  have HRM := Lib.hid (fun W hTf => remainder_any T d W hTf hd0 (by omega))
  generalize T.natAbs % d = r at *
  have hPb := mul_bds (x := fn) (y := (ea : Int)) f1 f2 (by omega) (by omega)
  have hQb := mul_bds (x := gn) (y := (eb : Int)) g1 g2 (by omega) (by omega)
  have hTf : Fits T := by rw [hTe]; exact fits_add hPb hQb
  have HTF := Lib.hid hTf
  have HP1 := Lib.hid (fun W => productOf_any fn (ea : Int) W f1 f2 (by omega) (by omega))
  have HP2 := Lib.hid (fun W => productOf_any gn (eb : Int) W g1 g2 (by omega) (by omega))
  have HPL := Lib.hid (fun W => plus_any (fn * (ea : Int)) (gn * (eb : Int)) W)
  rw [← hTe] at HPL
  have HC2 := Lib.hid (fun W => commonDivisor_any (r : Int) (d : Int) W (by omega) (by omega) (by omega) (by omega))
  simp only [Int.toNat_natCast] at HC2
  rw [← hS'] at HC2
  obtain ⟨N, hN⟩ : ∃ N, N = ovV T S := ⟨_, rfl⟩
  have HOV := Lib.hid (fun W => over_any T S W hTf hs0 (by omega))
  have hNf : Fits (ovV T S) := ovV_fits hTf
  have hMf : Fits ((eb : Int) * (ec : Int)) := mul_fits (by omega) (by omega) (by omega) (by omega)
  have HP3 := Lib.hid (fun W => productOf_any (eb : Int) (ec : Int) W (by omega) (by omega) (by omega) (by omega))
  have HFO := Lib.hid (fun W => fractionOf_any (ovV T S) ((eb : Int) * (ec : Int)) W hNf hMf)
  rw [← hN] at HOV HFO ⊢
  clear hN hS' hTe hPb hQb hTf hNf hMf hr1
  have c1 : IntKind.u64.wrap (fd : Int) = (fd : Int) := by simp only [IntKind.wrap_u64]; omega
  have c2 : IntKind.u64.wrap (gd : Int) = (gd : Int) := by simp only [IntKind.wrap_u64]; omega
  have c3 : IntKind.i64.wrap (d : Int) = (d : Int) := IntWalk.i64_in _ (by omega)
  have c4 : IntKind.u64.wrap (d : Int) = (d : Int) := by simp only [IntKind.wrap_u64]; omega
  have c5 : IntKind.i64.wrap (S : Int) = (S : Int) := IntWalk.i64_in _ (by omega)
  have z1 : ((d : Int) == 0) = false := beq_f (by omega)
  have z2 : ((S : Int) == 0) = false := beq_f (by omega)
  have Z1 := Lib.hid hd0
  have Z2 := Lib.hid hs0
  clear he1 he2 he3 hd1 hs1
  generalize (ea : Int) = ea at *
  generalize (eb : Int) = eb at *
  generalize (ec : Int) = ec at *
  generalize (r : Int) = r at *
  have z3 : (0 : Int) < (d : Int) := by omega
  have z4 : (0 : Int) < (S : Int) := by omega
  have z5 : ¬ (d : Int) = 0 := by omega
  have z6 : ¬ (S : Int) = 0 := by omega
  clear hd0 hs0 hf hg Z1 Z2
  generalize (fd : Int) = fd at *
  generalize (gd : Int) = gd at *
  generalize (d : Int) = d at *
  generalize hSS : ((S : Nat) : Int) = SS at *
  generalize fn * ea = P at *
  generalize gn * eb = Q at *
  generalize eb * ec = M at *
  generalize foN N M = X at *
  generalize foD N M = Y at *
  generalize (ptB N && ptB M) = Z at *
  go_enter Tryd.func22, Tryd.ntmps22
  go_wp2_with fail
  refine (validFraction_impl _ _ _ (by omega) (by omega)).mono ?_; rintro e w1 ⟨rfl, hb1⟩
  rw [HF.out]
  have F1 := Lib.hid (fbox_keep F0.out hb1)
  have G1 := Lib.hid (fbox_keep G0.out hb1)
  have R1 := Lib.hid (fbox_keep R0.out hb1)
  have B1 := Lib.hid (bnext B0.out hb1)
  clear hb1
  obtain ⟨⟨q0, q1, -⟩, -, -⟩ := G1.out
  simp at q0 q1
  go_wp2_with fail
  refine (validFraction_impl _ _ _ (by omega) (by omega)).mono ?_; rintro e w2 ⟨rfl, hb2⟩
  rw [HG.out]
  have F2 := Lib.hid (fbox_keep F1.out hb2)
  have G2 := Lib.hid (fbox_keep G1.out hb2)
  have R2 := Lib.hid (fbox_keep R1.out hb2)
  have B2 := Lib.hid (bnext B1.out hb2)
  clear hb2 q0 q1
  obtain ⟨⟨-, q1, -⟩, -, -⟩ := F2.out
  obtain ⟨⟨-, q3, -⟩, -, -⟩ := G2.out
  simp at q1 q3
  go_wp2_with fail
  refine (HC1.out _).mono ?_; rintro e w3 ⟨rfl, q, rfl⟩
  clear q1 q3
  go_wp2_with fail
  have t0 : T3 w ((w2.drewN q).drew) w.heap.size (w.heap.size + 1) (w.heap.size + 1 + 1) (.int .i64 fn) (.int .i64 fd) (.int .i64 gn) (.int .i64 gd) (.int .i64 0) (.int .i64 0) := by
    have e1 : (w.alloc (.cells #[.int .i64 fn, .int .i64 fd] 36)).heap.size = w.heap.size + 1 := by simp
    have e2 : ((w.alloc (.cells #[.int .i64 fn, .int .i64 fd] 36)).alloc (.cells #[.int .i64 gn, .int .i64 gd] 36)).heap.size = w.heap.size + 1 + 1 := by simp
    have t := T3.keep (w := w) ⟨F2.out, G2.out, R2.out, B2.out⟩ (below_drewN (Below.refl w2.heap.size w2) q)
    rw [e1, e2] at t
    exact t.keep (Below.refl _ _).drew
  obtain ⟨q0, q1, q2, q3, -⟩ := t0.cells
  have l0 : w.heap.size + 1 + 1 < w2.heap.size := by have := t0.2.2.1.1.2.2; simpa using this
  go_region_held3 (fun w' => w'.cell? ⟨w.heap.size, 0, none⟩ = some (.int .i64 fn) ∧ w'.cell? ⟨w.heap.size, 1, none⟩ = some (.int .i64 fd) ∧ w'.cell? ⟨w.heap.size + 1, 0, none⟩ = some (.int .i64 gn) ∧ w'.cell? ⟨w.heap.size + 1, 1, none⟩ = some (.int .i64 gd) ∧ T3 w w' w.heap.size (w.heap.size + 1) (w.heap.size + 1 + 1) (.int .i64 fn) (.int .i64 fd) (.int .i64 gn) (.int .i64 gd) (.int .i64 0) (.int .i64 0)) ((first | (with_reducible (refine T3.cells ?_; first | assumption | exact T3.made (by assumption) _); done) | (with_reducible refine T3.cells (T3.stored (by assumption) _ _ ?_ ?_ ?_ ?_) <;> (first | omega | (simp; omega))) | (with_reducible refine T3.cells (T3.stored (T3.made (by assumption) _) _ _ ?_ ?_ ?_ ?_) <;> (first | omega | (simp; omega))) | exact T3.cells (T3.made t0 _)))
    (first
      | (go_at_call_of 73 (Value.int .i64 fn); refine (HP1.out _).mono ?_; rintro e w8 ⟨rfl, hb8⟩; (first | (have t8 := T3.keep t0 hb8) | (have t8 := T3.keep (T3.made t0 _) hb8; have u8 := fbox_keep (fbox_new _ _ _ _) hb8)); have l8 := t8.2.2.1.1.2.2)
      | (go_at_call_of 73 (Value.int .i64 gn); refine (HP2.out _).mono ?_; rintro e w9 ⟨rfl, hb9⟩; (first | ((with_reducible have t9 := T3.keep t8 hb9); try have u9 := fbox_keep u8 hb9) | ((with_reducible have t9 := T3.keep (T3.made t8 _) hb9); ((with_reducible have u9 := fbox_keep (fbox_new _ _ _ _) hb9)))); have l9 := t9.2.2.1.1.2.2)
      | (go_at_call 74; refine (HPL.out _).mono ?_; rintro e w10 ⟨rfl, hb10⟩; (first | ((with_reducible have t10 := T3.keep t9 hb10); try (have u10 := fbox_keep u9 hb10; obtain ⟨⟨x0, x1, x5⟩, x2, x3⟩ := u10; (try simp at x0); (try simp at x1); (try simp at x2); (try simp at x3))) | ((with_reducible have t10 := T3.keep (T3.made t9 _) hb10); (with_reducible have u10 := fbox_keep (fbox_new _ _ _ _) hb10); obtain ⟨⟨x0, x1, x5⟩, x2, x3⟩ := u10)); have l10 := t10.2.2.1.1.2.2))
  · have tS := T3.made t10 (.cells #[.int .u64 (hi64 T), .int .u64 (lo64 T)] 101)
    have uS := fbox_new w10 (.int .u64 (hi64 T)) (.int .u64 (lo64 T)) 101
    have hbb := l10
    generalize w10.heap.size = bb at *
    generalize w10.alloc (.cells #[.int .u64 (hi64 T), .int .u64 (lo64 T)] 101) = W at *
    have ll : w.heap.size + 1 + 1 < bb := hbb
    have uu := uS
    obtain ⟨⟨y0, y1, -⟩, -, -⟩ := uu
    go_wp2_with fail
    refine (HRM.out _ HTF.out).mono ?_; rintro e w11 ⟨rfl, hb11⟩
    have t11 := T3.keep tS hb11
    have u11 := fbox_keep uS hb11
    clear y0 y1 hb11
    go_wp2_with fail
    refine (HC2.out _).mono ?_; rintro e w12 ⟨rfl, q', rfl⟩
    have t12 := T3.keep t11 (below_drewN (Below.refl w11.heap.size w11) q')
    have u12 := fbox_keep u11 (below_drewN (Below.refl w11.heap.size w11) q')
    go_wp2_with fail
    have t13 := t12.keep (Below.refl _ _).drew
    have u13 := fbox_keep u12 (Below.refl _ _).drew
    obtain ⟨-, q1, -, q3, -⟩ := t13.cells
    have uu := u13
    obtain ⟨⟨y0, y1, -⟩, -, -⟩ := uu
    go_region_held3 (fun w' => w'.cell? ⟨w.heap.size, 1, none⟩ = some (.int .i64 fd) ∧ w'.cell? ⟨w.heap.size + 1, 1, none⟩ = some (.int .i64 gd) ∧ w'.cell? ⟨bb, 0, none⟩ = some (.int .u64 (hi64 T)) ∧ w'.cell? ⟨bb, 1, none⟩ = some (.int .u64 (lo64 T))) ((first | exact ⟨q1, q3, y0, y1⟩ | exact ⟨z1, z3, z4, z5⟩ | (refine ⟨?_, ?_, ?_, ?_⟩ <;> (rw [World.cell?_setCell_far _ _ _ _ (by first | omega | (simp; omega) | simp), World.cell?_setCell_far _ _ _ _ (by first | omega | (simp; omega) | simp)]; assumption))))
        (first
          | (go_at_call 77; refine (HOV.out _).mono ?_; rintro e w14 ⟨rfl, hb14⟩; have t14 := T3.keep t13 hb14; have u14 := fbox_keep u13 hb14; obtain ⟨-, z1, -, z3, -⟩ := t14.cells; have uu := u14; obtain ⟨⟨z4, z5, -⟩, -, -⟩ := uu)
          | (go_at_call 73; refine (HP3.out _).mono ?_; rintro e w15 ⟨rfl, hb15⟩; have t15 := T3.keep t14 hb15; have u15 := fbox_keep u14 hb15; obtain ⟨-, z1, -, z3, -⟩ := t15.cells; have uu := u15; obtain ⟨⟨z4, z5, -⟩, -, -⟩ := uu)
          | (go_at_call 76; refine (HFO.out _).mono ?_; rintro e w16 ⟨rfl, hb16⟩; have t16 := T3.keep t15 hb16; have u16 := fbox_keep u15 hb16; obtain ⟨-, z1, -, z3, -⟩ := t16.cells; have uu := u16; obtain ⟨⟨z4, z5, -⟩, -, -⟩ := uu; have tt := t16; obtain ⟨-, -, ⟨⟨z6, z7, -⟩, z8, z9⟩, -⟩ := tt))
    have tb := t16.2.2.2
    go_wp2_with fail
    refine bodyPost_ret (v := .tuple #[.agg #[.int .i64 X, .int .i64 Y], .bool Z]) (by simp [results, Tryd.results22, go_sem, z6, z7]) rfl ⟨rfl, ?_⟩
    exact (tb.setCell (by simp; omega) _).setCell (by simp; omega) _
  · have uT : FBox w10 w9.heap.size (.int .u64 0) (.int .u64 0) := ⟨⟨x0, x1, by simpa using x5⟩, x2, x3⟩
    have uS := fbox_set uT (.int .u64 (hi64 T)) (.int .u64 (lo64 T))
    have hbb := l9
    have tS := T3.stored t10 (bb := w9.heap.size) (.int .u64 (hi64 T)) (.int .u64 (lo64 T)) (by omega) (by omega) (by omega) (by omega)
    clear uT x0 x1 x2 x3 x5
    generalize w9.heap.size = bb at *
    generalize (w10.setCell ⟨bb, 0, none⟩ (.int .u64 (hi64 T))).setCell ⟨bb, 1, none⟩ (.int .u64 (lo64 T)) = W at *
    have ll : w.heap.size + 1 + 1 < bb := hbb
    have uu := uS
    obtain ⟨⟨y0, y1, -⟩, -, -⟩ := uu
    go_wp2_with fail
    refine (HRM.out _ HTF.out).mono ?_; rintro e w11 ⟨rfl, hb11⟩
    have t11 := T3.keep tS hb11
    have u11 := fbox_keep uS hb11
    clear y0 y1 hb11
    go_wp2_with fail
    refine (HC2.out _).mono ?_; rintro e w12 ⟨rfl, q', rfl⟩
    have t12 := T3.keep t11 (below_drewN (Below.refl w11.heap.size w11) q')
    have u12 := fbox_keep u11 (below_drewN (Below.refl w11.heap.size w11) q')
    go_wp2_with fail
    have t13 := t12.keep (Below.refl _ _).drew
    have u13 := fbox_keep u12 (Below.refl _ _).drew
    obtain ⟨-, q1, -, q3, -⟩ := t13.cells
    have uu := u13
    obtain ⟨⟨y0, y1, -⟩, -, -⟩ := uu
    go_region_held3 (fun w' => w'.cell? ⟨w.heap.size, 1, none⟩ = some (.int .i64 fd) ∧ w'.cell? ⟨w.heap.size + 1, 1, none⟩ = some (.int .i64 gd) ∧ w'.cell? ⟨bb, 0, none⟩ = some (.int .u64 (hi64 T)) ∧ w'.cell? ⟨bb, 1, none⟩ = some (.int .u64 (lo64 T))) ((first | exact ⟨q1, q3, y0, y1⟩ | exact ⟨z1, z3, z4, z5⟩ | (refine ⟨?_, ?_, ?_, ?_⟩ <;> (rw [World.cell?_setCell_far _ _ _ _ (by first | omega | (simp; omega) | simp), World.cell?_setCell_far _ _ _ _ (by first | omega | (simp; omega) | simp)]; assumption))))
        (first
          | (go_at_call 77; refine (HOV.out _).mono ?_; rintro e w14 ⟨rfl, hb14⟩; have t14 := T3.keep t13 hb14; have u14 := fbox_keep u13 hb14; obtain ⟨-, z1, -, z3, -⟩ := t14.cells; have uu := u14; obtain ⟨⟨z4, z5, -⟩, -, -⟩ := uu)
          | (go_at_call 73; refine (HP3.out _).mono ?_; rintro e w15 ⟨rfl, hb15⟩; have t15 := T3.keep t14 hb15; have u15 := fbox_keep u14 hb15; obtain ⟨-, z1, -, z3, -⟩ := t15.cells; have uu := u15; obtain ⟨⟨z4, z5, -⟩, -, -⟩ := uu)
          | (go_at_call 76; refine (HFO.out _).mono ?_; rintro e w16 ⟨rfl, hb16⟩; have t16 := T3.keep t15 hb16; have u16 := fbox_keep u15 hb16; obtain ⟨-, z1, -, z3, -⟩ := t16.cells; have uu := u16; obtain ⟨⟨z4, z5, -⟩, -, -⟩ := uu; have tt := t16; obtain ⟨-, -, ⟨⟨z6, z7, -⟩, z8, z9⟩, -⟩ := tt))
    have tb := t16.2.2.2
    go_wp2_with fail
    refine bodyPost_ret (v := .tuple #[.agg #[.int .i64 X, .int .i64 Y], .bool Z]) (by simp [results, Tryd.results22, go_sem, z6, z7]) rfl ⟨rfl, ?_⟩
    exact (tb.setCell (by simp; omega) _).setCell (by simp; omega) _
  · have uT : FBox w10 w8.heap.size (.int .u64 0) (.int .u64 0) := ⟨⟨x0, x1, by simpa using x5⟩, x2, x3⟩
    have uS := fbox_set uT (.int .u64 (hi64 T)) (.int .u64 (lo64 T))
    have hbb := l8
    have tS := T3.stored t10 (bb := w8.heap.size) (.int .u64 (hi64 T)) (.int .u64 (lo64 T)) (by omega) (by omega) (by omega) (by omega)
    clear uT x0 x1 x2 x3 x5
    generalize w8.heap.size = bb at *
    generalize (w10.setCell ⟨bb, 0, none⟩ (.int .u64 (hi64 T))).setCell ⟨bb, 1, none⟩ (.int .u64 (lo64 T)) = W at *
    have ll : w.heap.size + 1 + 1 < bb := hbb
    have uu := uS
    obtain ⟨⟨y0, y1, -⟩, -, -⟩ := uu
    go_wp2_with fail
    refine (HRM.out _ HTF.out).mono ?_; rintro e w11 ⟨rfl, hb11⟩
    have t11 := T3.keep tS hb11
    have u11 := fbox_keep uS hb11
    clear y0 y1 hb11
    go_wp2_with fail
    refine (HC2.out _).mono ?_; rintro e w12 ⟨rfl, q', rfl⟩
    have t12 := T3.keep t11 (below_drewN (Below.refl w11.heap.size w11) q')
    have u12 := fbox_keep u11 (below_drewN (Below.refl w11.heap.size w11) q')
    go_wp2_with fail
    have t13 := t12.keep (Below.refl _ _).drew
    have u13 := fbox_keep u12 (Below.refl _ _).drew
    obtain ⟨-, q1, -, q3, -⟩ := t13.cells
    have uu := u13
    obtain ⟨⟨y0, y1, -⟩, -, -⟩ := uu
    go_region_held3 (fun w' => w'.cell? ⟨w.heap.size, 1, none⟩ = some (.int .i64 fd) ∧ w'.cell? ⟨w.heap.size + 1, 1, none⟩ = some (.int .i64 gd) ∧ w'.cell? ⟨bb, 0, none⟩ = some (.int .u64 (hi64 T)) ∧ w'.cell? ⟨bb, 1, none⟩ = some (.int .u64 (lo64 T))) ((first | exact ⟨q1, q3, y0, y1⟩ | exact ⟨z1, z3, z4, z5⟩ | (refine ⟨?_, ?_, ?_, ?_⟩ <;> (rw [World.cell?_setCell_far _ _ _ _ (by first | omega | (simp; omega) | simp), World.cell?_setCell_far _ _ _ _ (by first | omega | (simp; omega) | simp)]; assumption))))
        (first
          | (go_at_call 77; refine (HOV.out _).mono ?_; rintro e w14 ⟨rfl, hb14⟩; have t14 := T3.keep t13 hb14; have u14 := fbox_keep u13 hb14; obtain ⟨-, z1, -, z3, -⟩ := t14.cells; have uu := u14; obtain ⟨⟨z4, z5, -⟩, -, -⟩ := uu)
          | (go_at_call 73; refine (HP3.out _).mono ?_; rintro e w15 ⟨rfl, hb15⟩; have t15 := T3.keep t14 hb15; have u15 := fbox_keep u14 hb15; obtain ⟨-, z1, -, z3, -⟩ := t15.cells; have uu := u15; obtain ⟨⟨z4, z5, -⟩, -, -⟩ := uu)
          | (go_at_call 76; refine (HFO.out _).mono ?_; rintro e w16 ⟨rfl, hb16⟩; have t16 := T3.keep t15 hb16; have u16 := fbox_keep u15 hb16; obtain ⟨-, z1, -, z3, -⟩ := t16.cells; have uu := u16; obtain ⟨⟨z4, z5, -⟩, -, -⟩ := uu; have tt := t16; obtain ⟨-, -, ⟨⟨z6, z7, -⟩, z8, z9⟩, -⟩ := tt))
    have tb := t16.2.2.2
    go_wp2_with fail
    refine bodyPost_ret (v := .tuple #[.agg #[.int .i64 X, .int .i64 Y], .bool Z]) (by simp [results, Tryd.results22, go_sem, z6, z7]) rfl ⟨rfl, ?_⟩
    exact (tb.setCell (by simp; omega) _).setCell (by simp; omega) _
  · have uT : FBox w10 w2.heap.size (.int .u64 0) (.int .u64 0) := ⟨⟨x0, x1, by simpa using x5⟩, x2, x3⟩
    have uS := fbox_set uT (.int .u64 (hi64 T)) (.int .u64 (lo64 T))
    have hbb := l0
    have tS := T3.stored t10 (bb := w2.heap.size) (.int .u64 (hi64 T)) (.int .u64 (lo64 T)) (by omega) (by omega) (by omega) (by omega)
    clear uT x0 x1 x2 x3 x5
    generalize w2.heap.size = bb at *
    generalize (w10.setCell ⟨bb, 0, none⟩ (.int .u64 (hi64 T))).setCell ⟨bb, 1, none⟩ (.int .u64 (lo64 T)) = W at *
    have ll : w.heap.size + 1 + 1 < bb := hbb
    have uu := uS
    obtain ⟨⟨y0, y1, -⟩, -, -⟩ := uu
    go_wp2_with fail
    refine (HRM.out _ HTF.out).mono ?_; rintro e w11 ⟨rfl, hb11⟩
    have t11 := T3.keep tS hb11
    have u11 := fbox_keep uS hb11
    clear y0 y1 hb11
    go_wp2_with fail
    refine (HC2.out _).mono ?_; rintro e w12 ⟨rfl, q', rfl⟩
    have t12 := T3.keep t11 (below_drewN (Below.refl w11.heap.size w11) q')
    have u12 := fbox_keep u11 (below_drewN (Below.refl w11.heap.size w11) q')
    go_wp2_with fail
    have t13 := t12.keep (Below.refl _ _).drew
    have u13 := fbox_keep u12 (Below.refl _ _).drew
    obtain ⟨-, q1, -, q3, -⟩ := t13.cells
    have uu := u13
    obtain ⟨⟨y0, y1, -⟩, -, -⟩ := uu
    go_region_held3 (fun w' => w'.cell? ⟨w.heap.size, 1, none⟩ = some (.int .i64 fd) ∧ w'.cell? ⟨w.heap.size + 1, 1, none⟩ = some (.int .i64 gd) ∧ w'.cell? ⟨bb, 0, none⟩ = some (.int .u64 (hi64 T)) ∧ w'.cell? ⟨bb, 1, none⟩ = some (.int .u64 (lo64 T))) ((first | exact ⟨q1, q3, y0, y1⟩ | exact ⟨z1, z3, z4, z5⟩ | (refine ⟨?_, ?_, ?_, ?_⟩ <;> (rw [World.cell?_setCell_far _ _ _ _ (by first | omega | (simp; omega) | simp), World.cell?_setCell_far _ _ _ _ (by first | omega | (simp; omega) | simp)]; assumption))))
        (first
          | (go_at_call 77; refine (HOV.out _).mono ?_; rintro e w14 ⟨rfl, hb14⟩; have t14 := T3.keep t13 hb14; have u14 := fbox_keep u13 hb14; obtain ⟨-, z1, -, z3, -⟩ := t14.cells; have uu := u14; obtain ⟨⟨z4, z5, -⟩, -, -⟩ := uu)
          | (go_at_call 73; refine (HP3.out _).mono ?_; rintro e w15 ⟨rfl, hb15⟩; have t15 := T3.keep t14 hb15; have u15 := fbox_keep u14 hb15; obtain ⟨-, z1, -, z3, -⟩ := t15.cells; have uu := u15; obtain ⟨⟨z4, z5, -⟩, -, -⟩ := uu)
          | (go_at_call 76; refine (HFO.out _).mono ?_; rintro e w16 ⟨rfl, hb16⟩; have t16 := T3.keep t15 hb16; have u16 := fbox_keep u15 hb16; obtain ⟨-, z1, -, z3, -⟩ := t16.cells; have uu := u16; obtain ⟨⟨z4, z5, -⟩, -, -⟩ := uu; have tt := t16; obtain ⟨-, -, ⟨⟨z6, z7, -⟩, z8, z9⟩, -⟩ := tt))
    have tb := t16.2.2.2
    go_wp2_with fail
    refine bodyPost_ret (v := .tuple #[.agg #[.int .i64 X, .int .i64 Y], .bool Z]) (by simp [results, Tryd.results22, go_sem, z6, z7]) rfl ⟨rfl, ?_⟩
    exact (tb.setCell (by simp; omega) _).setCell (by simp; omega) _
end Go.Proofs.YtnpigefbdadjfaaDoor
