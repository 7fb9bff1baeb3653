/- Several texts in one: The program's sum of fractions: unfinished. | The program's AddFractions, whole. | The program's SubFractions. | The program's timesPower: a fraction times the power of another one, step by step. | The program's silenceOf: one less a chance. | The program's QuietChance. | The program's SuccessChance. -/
import Derived.Test.YtmhdjimdhcephabAdP
import Derived.Deep.RegionHeld3
import Derived.Test.YtmhdjimdhcephabNdI
namespace Go.Proofs.Ytmhdjimdhcephab
open Go Go.RowKit
set_option linter.unusedVariables false

set_option maxRecDepth 100000 in
set_option maxHeartbeats 16000000 in
theorem add_yes (fn gn : Int) (fd gd : Nat) (w : World) (hf : fIs fn fd = true) (hg : fIs gn gd = true) :
    Calls Try.prog 22 #[.agg #[.int .i64 fn, .int .i64 fd], .agg #[.int .i64 gn, .int .i64 gd]] w fun e w' => e = .returned (.tuple #[.agg #[.int .i64 (foN (adN fn gn fd gd) (adM fn gn fd gd)), .int .i64 (foD (adN fn gn fd gd) (adM fn gn fd gd))], .bool (ptB (adN fn gn fd gd) && ptB (adM fn gn fd gd))]) ∧ Below w.heap.size w w' := by
  have F0 := Lib.hid (fbox_alloc (fbox_alloc (fbox_new w (.int .i64 fn) (.int .i64 fd) 24) (.cells #[.int .i64 gn, .int .i64 gd] 24)) (.cells #[.int .i64 0, .int .i64 0] 24))
  have G0 := Lib.hid (fbox_alloc (fbox_new (w.alloc (.cells #[.int .i64 fn, .int .i64 fd] 24)) (.int .i64 gn) (.int .i64 gd) 24) (.cells #[.int .i64 0, .int .i64 0] 24))
  have R0 := Lib.hid (fbox_new ((w.alloc (.cells #[.int .i64 fn, .int .i64 fd] 24)).alloc (.cells #[.int .i64 gn, .int .i64 gd] 24)) (.int .i64 0) (.int .i64 0) 24)
  have B0 := Lib.hid (balloc (balloc (balloc (Below.refl w.heap.size w) (.cells #[.int .i64 fn, .int .i64 fd] 24)) (.cells #[.int .i64 gn, .int .i64 gd] 24)) (.cells #[.int .i64 0, .int .i64 0] 24))
  have HF := Lib.hid hf
  have HG := Lib.hid hg
  obtain ⟨⟨f3, f4⟩, f1, f2⟩ := fIs_bd hf
  obtain ⟨⟨g3, g4⟩, g1, g2⟩ := fIs_bd hg
  have hd0 : 0 < Nat.gcd fd gd := Nat.gcd_pos_of_pos_left _ (by omega)
  have hd1 : Nat.gcd fd gd ≤ fd := Nat.gcd_le_left _ (by omega)
  have HC1 := Lib.hid (fun W => commonDivisor_any (fd : Int) (gd : Int) W (by omega) (by omega) (by omega) (by omega))
  simp only [Int.toNat_natCast] at HC1
  obtain ⟨d, hd⟩ : ∃ d, d = Nat.gcd fd gd := ⟨_, rfl⟩
  obtain ⟨S, hS⟩ : ∃ S, S = adS fn gn fd gd := ⟨_, rfl⟩
  obtain ⟨T, hT⟩ : ∃ T, T = adT fn gn fd gd := ⟨_, rfl⟩
  have hS' : S = Nat.gcd (T.natAbs % d) d := by rw [hS, hT, hd]; rfl
  rw [← hd] at hd0 hd1 HC1
  have hs0 : 0 < S := by rw [hS']; exact Nat.gcd_pos_of_pos_right _ hd0
  have hs1 : S ≤ d := by rw [hS']; exact Nat.gcd_le_right _ hd0
  have he1 := Nat.div_le_self gd d
  have he2 := Nat.div_le_self fd d
  have he3 := Nat.div_le_self gd S
  have hr1 := Nat.mod_lt T.natAbs hd0
  have c6 : IntKind.i64.wrap (Int.tdiv (gd : Int) (d : Int)) = ((gd / d : Nat) : Int) := by
    rw [tdiv_nat]; generalize gd / d = x at *; exact IntWalk.i64_in _ (by omega)
  have c7 : IntKind.i64.wrap (Int.tdiv (fd : Int) (d : Int)) = ((fd / d : Nat) : Int) := by
    rw [tdiv_nat]; generalize fd / d = x at *; exact IntWalk.i64_in _ (by omega)
  have c8 : IntKind.i64.wrap (Int.tdiv (gd : Int) (S : Int)) = ((gd / S : Nat) : Int) := by
    rw [tdiv_nat]; generalize gd / S = x at *; exact IntWalk.i64_in _ (by omega)
  have hTe : T = fn * ((gd / d : Nat) : Int) + gn * ((fd / d : Nat) : Int) := by rw [hT, hd]; rfl
  have eN : adN fn gn fd gd = ovV T S := by rw [hS, hT]; rfl
  have eM : adM fn gn fd gd = ((fd / d : Nat) : Int) * ((gd / S : Nat) : Int) := by rw [hS, hd]; rfl
  rw [eN, eM]
  clear eN eM hS hT hd
  generalize gd / d = ea at *
  generalize fd / d = eb at *
  generalize gd / S = ec at *
  have HRM := Lib.hid (fun W hTf => remainder_any T d W hTf hd0 (by omega))
  generalize T.natAbs % d = r at *
  have hPb := mul_bds (x := fn) (y := (ea : Int)) f1 f2 (by omega) (by omega)
  have hQb := mul_bds (x := gn) (y := (eb : Int)) g1 g2 (by omega) (by omega)
  have hTf : Fits T := by rw [hTe]; exact fits_add hPb hQb
  have HTF := Lib.hid hTf
  have HP1 := Lib.hid (fun W => productOf_any fn (ea : Int) W f1 f2 (by omega) (by omega))
  have HP2 := Lib.hid (fun W => productOf_any gn (eb : Int) W g1 g2 (by omega) (by omega))
  have HPL := Lib.hid (fun W => plus_any (fn * (ea : Int)) (gn * (eb : Int)) W)
  rw [← hTe] at HPL
  have HC2 := Lib.hid (fun W => commonDivisor_any (r : Int) (d : Int) W (by omega) (by omega) (by omega) (by omega))
  simp only [Int.toNat_natCast] at HC2
  rw [← hS'] at HC2
  obtain ⟨N, hN⟩ : ∃ N, N = ovV T S := ⟨_, rfl⟩
  have HOV := Lib.hid (fun W => over_any T S W hTf hs0 (by omega))
  have hNf : Fits (ovV T S) := ovV_fits hTf
  have hMf : Fits ((eb : Int) * (ec : Int)) := mul_fits (by omega) (by omega) (by omega) (by omega)
  have HP3 := Lib.hid (fun W => productOf_any (eb : Int) (ec : Int) W (by omega) (by omega) (by omega) (by omega))
  have HFO := Lib.hid (fun W => fractionOf_any (ovV T S) ((eb : Int) * (ec : Int)) W hNf hMf)
  rw [← hN] at HOV HFO ⊢
  clear hN hS' hTe hPb hQb hTf hNf hMf hr1
  have c1 : IntKind.u64.wrap (fd : Int) = (fd : Int) := by simp only [IntKind.wrap_u64]; omega
  have c2 : IntKind.u64.wrap (gd : Int) = (gd : Int) := by simp only [IntKind.wrap_u64]; omega
  have c3 : IntKind.i64.wrap (d : Int) = (d : Int) := IntWalk.i64_in _ (by omega)
  have c4 : IntKind.u64.wrap (d : Int) = (d : Int) := by simp only [IntKind.wrap_u64]; omega
  have c5 : IntKind.i64.wrap (S : Int) = (S : Int) := IntWalk.i64_in _ (by omega)
  have z1 : ((d : Int) == 0) = false := beq_f (by omega)
  have z2 : ((S : Int) == 0) = false := beq_f (by omega)
  have Z1 := Lib.hid hd0
  have Z2 := Lib.hid hs0
  clear he1 he2 he3 hd1 hs1
  generalize (ea : Int) = ea at *
  generalize (eb : Int) = eb at *
  generalize (ec : Int) = ec at *
  generalize (r : Int) = r at *
  have z3 : (0 : Int) < (d : Int) := by omega
  have z4 : (0 : Int) < (S : Int) := by omega
  have z5 : ¬ (d : Int) = 0 := by omega
  have z6 : ¬ (S : Int) = 0 := by omega
  clear hd0 hs0 hf hg Z1 Z2
  generalize (fd : Int) = fd at *
  generalize (gd : Int) = gd at *
  generalize (d : Int) = d at *
  generalize hSS : ((S : Nat) : Int) = SS at *
  generalize fn * ea = P at *
  generalize gn * eb = Q at *
  generalize eb * ec = M at *
  generalize foN N M = X at *
  generalize foD N M = Y at *
  generalize (ptB N && ptB M) = Z at *
  go_enter Try.func22, Try.ntmps22
  go_wp2_with fail
  refine (validFraction_impl _ _ _ (by omega) (by omega)).mono ?_; rintro e w1 ⟨rfl, hb1⟩
  rw [HF.out]
  have F1 := Lib.hid (fbox_keep F0.out hb1)
  have G1 := Lib.hid (fbox_keep G0.out hb1)
  have R1 := Lib.hid (fbox_keep R0.out hb1)
  have B1 := Lib.hid (bnext B0.out hb1)
  clear hb1
  obtain ⟨⟨q0, q1, -⟩, -, -⟩ := G1.out
  simp at q0 q1
  go_wp2_with fail
  refine (validFraction_impl _ _ _ (by omega) (by omega)).mono ?_; rintro e w2 ⟨rfl, hb2⟩
  rw [HG.out]
  have F2 := Lib.hid (fbox_keep F1.out hb2)
  have G2 := Lib.hid (fbox_keep G1.out hb2)
  have R2 := Lib.hid (fbox_keep R1.out hb2)
  have B2 := Lib.hid (bnext B1.out hb2)
  clear hb2 q0 q1
  obtain ⟨⟨-, q1, -⟩, -, -⟩ := F2.out
  obtain ⟨⟨-, q3, -⟩, -, -⟩ := G2.out
  simp at q1 q3
  go_wp2_with fail
  refine (HC1.out _).mono ?_; rintro e w3 ⟨rfl, q, rfl⟩
  clear q1 q3
  go_wp2_with fail
  have t0 : T3 w ((w2.drewN q).drew) w.heap.size (w.heap.size + 1) (w.heap.size + 1 + 1) (.int .i64 fn) (.int .i64 fd) (.int .i64 gn) (.int .i64 gd) (.int .i64 0) (.int .i64 0) := by
    have e1 : (w.alloc (.cells #[.int .i64 fn, .int .i64 fd] 24)).heap.size = w.heap.size + 1 := by simp
    have e2 : ((w.alloc (.cells #[.int .i64 fn, .int .i64 fd] 24)).alloc (.cells #[.int .i64 gn, .int .i64 gd] 24)).heap.size = w.heap.size + 1 + 1 := by simp
    have t := T3.keep (w := w) ⟨F2.out, G2.out, R2.out, B2.out⟩ (below_drewN (Below.refl w2.heap.size w2) q)
    rw [e1, e2] at t
    exact t.keep (Below.refl _ _).drew
  obtain ⟨q0, q1, q2, q3, -⟩ := t0.cells
  have l0 : w.heap.size + 1 + 1 < w2.heap.size := by have := t0.2.2.1.1.2.2; simpa using this
  go_region_held3 (fun w' => w'.cell? ⟨w.heap.size, 0, none⟩ = some (.int .i64 fn) ∧ w'.cell? ⟨w.heap.size, 1, none⟩ = some (.int .i64 fd) ∧ w'.cell? ⟨w.heap.size + 1, 0, none⟩ = some (.int .i64 gn) ∧ w'.cell? ⟨w.heap.size + 1, 1, none⟩ = some (.int .i64 gd) ∧ T3 w w' w.heap.size (w.heap.size + 1) (w.heap.size + 1 + 1) (.int .i64 fn) (.int .i64 fd) (.int .i64 gn) (.int .i64 gd) (.int .i64 0) (.int .i64 0)) ((first | (with_reducible (refine T3.cells ?_; first | assumption | exact T3.made (by assumption) _); done) | (with_reducible refine T3.cells (T3.stored (by assumption) _ _ ?_ ?_ ?_ ?_) <;> (first | omega | (simp; omega))) | (with_reducible refine T3.cells (T3.stored (T3.made (by assumption) _) _ _ ?_ ?_ ?_ ?_) <;> (first | omega | (simp; omega))) | exact T3.cells (T3.made t0 _)))
    (first
      | (go_at_call_of 71 (Value.int .i64 fn); refine (HP1.out _).mono ?_; rintro e w8 ⟨rfl, hb8⟩; (first | (have t8 := T3.keep t0 hb8) | (have t8 := T3.keep (T3.made t0 _) hb8; have u8 := fbox_keep (fbox_new _ _ _ _) hb8)); have l8 := t8.2.2.1.1.2.2)
      | (go_at_call_of 71 (Value.int .i64 gn); refine (HP2.out _).mono ?_; rintro e w9 ⟨rfl, hb9⟩; (first | ((with_reducible have t9 := T3.keep t8 hb9); try have u9 := fbox_keep u8 hb9) | ((with_reducible have t9 := T3.keep (T3.made t8 _) hb9); ((with_reducible have u9 := fbox_keep (fbox_new _ _ _ _) hb9)))); have l9 := t9.2.2.1.1.2.2)
      | (go_at_call 72; refine (HPL.out _).mono ?_; rintro e w10 ⟨rfl, hb10⟩; (first | ((with_reducible have t10 := T3.keep t9 hb10); try (have u10 := fbox_keep u9 hb10; obtain ⟨⟨x0, x1, x5⟩, x2, x3⟩ := u10; (try simp at x0); (try simp at x1); (try simp at x2); (try simp at x3))) | ((with_reducible have t10 := T3.keep (T3.made t9 _) hb10); (with_reducible have u10 := fbox_keep (fbox_new _ _ _ _) hb10); obtain ⟨⟨x0, x1, x5⟩, x2, x3⟩ := u10)); have l10 := t10.2.2.1.1.2.2))
  · have tS := T3.made t10 (.cells #[.int .u64 (hi64 T), .int .u64 (lo64 T)] 76)
    have uS := fbox_new w10 (.int .u64 (hi64 T)) (.int .u64 (lo64 T)) 76
    have hbb := l10
    generalize w10.heap.size = bb at *
    generalize w10.alloc (.cells #[.int .u64 (hi64 T), .int .u64 (lo64 T)] 76) = W at *
    have ll : w.heap.size + 1 + 1 < bb := hbb
    have uu := uS
    obtain ⟨⟨y0, y1, -⟩, -, -⟩ := uu
    go_wp2_with fail
    refine (HRM.out _ HTF.out).mono ?_; rintro e w11 ⟨rfl, hb11⟩
    have t11 := T3.keep tS hb11
    have u11 := fbox_keep uS hb11
    clear y0 y1 hb11
    go_wp2_with fail
    refine (HC2.out _).mono ?_; rintro e w12 ⟨rfl, q', rfl⟩
    have t12 := T3.keep t11 (below_drewN (Below.refl w11.heap.size w11) q')
    have u12 := fbox_keep u11 (below_drewN (Below.refl w11.heap.size w11) q')
    go_wp2_with fail
    have t13 := t12.keep (Below.refl _ _).drew
    have u13 := fbox_keep u12 (Below.refl _ _).drew
    obtain ⟨-, q1, -, q3, -⟩ := t13.cells
    have uu := u13
    obtain ⟨⟨y0, y1, -⟩, -, -⟩ := uu
    go_region_held3 (fun w' => w'.cell? ⟨w.heap.size, 1, none⟩ = some (.int .i64 fd) ∧ w'.cell? ⟨w.heap.size + 1, 1, none⟩ = some (.int .i64 gd) ∧ w'.cell? ⟨bb, 0, none⟩ = some (.int .u64 (hi64 T)) ∧ w'.cell? ⟨bb, 1, none⟩ = some (.int .u64 (lo64 T))) ((first | exact ⟨q1, q3, y0, y1⟩ | exact ⟨z1, z3, z4, z5⟩ | (refine ⟨?_, ?_, ?_, ?_⟩ <;> (rw [World.cell?_setCell_far _ _ _ _ (by first | omega | (simp; omega) | simp), World.cell?_setCell_far _ _ _ _ (by first | omega | (simp; omega) | simp)]; assumption))))
        (first
          | (go_at_call 75; refine (HOV.out _).mono ?_; rintro e w14 ⟨rfl, hb14⟩; have t14 := T3.keep t13 hb14; have u14 := fbox_keep u13 hb14; obtain ⟨-, z1, -, z3, -⟩ := t14.cells; have uu := u14; obtain ⟨⟨z4, z5, -⟩, -, -⟩ := uu)
          | (go_at_call 71; refine (HP3.out _).mono ?_; rintro e w15 ⟨rfl, hb15⟩; have t15 := T3.keep t14 hb15; have u15 := fbox_keep u14 hb15; obtain ⟨-, z1, -, z3, -⟩ := t15.cells; have uu := u15; obtain ⟨⟨z4, z5, -⟩, -, -⟩ := uu)
          | (go_at_call 74; refine (HFO.out _).mono ?_; rintro e w16 ⟨rfl, hb16⟩; have t16 := T3.keep t15 hb16; have u16 := fbox_keep u15 hb16; obtain ⟨-, z1, -, z3, -⟩ := t16.cells; have uu := u16; obtain ⟨⟨z4, z5, -⟩, -, -⟩ := uu; have tt := t16; obtain ⟨-, -, ⟨⟨z6, z7, -⟩, z8, z9⟩, -⟩ := tt))
    have tb := t16.2.2.2
    go_wp2_with fail
    refine bodyPost_ret (v := .tuple #[.agg #[.int .i64 X, .int .i64 Y], .bool Z]) (by simp [results, Try.results22, go_sem, z6, z7]) rfl ⟨rfl, ?_⟩
    exact (tb.setCell (by simp; omega) _).setCell (by simp; omega) _
  · have uT : FBox w10 w9.heap.size (.int .u64 0) (.int .u64 0) := ⟨⟨x0, x1, by simpa using x5⟩, x2, x3⟩
    have uS := fbox_set uT (.int .u64 (hi64 T)) (.int .u64 (lo64 T))
    have hbb := l9
    have tS := T3.stored t10 (bb := w9.heap.size) (.int .u64 (hi64 T)) (.int .u64 (lo64 T)) (by omega) (by omega) (by omega) (by omega)
    clear uT x0 x1 x2 x3 x5
    generalize w9.heap.size = bb at *
    generalize (w10.setCell ⟨bb, 0, none⟩ (.int .u64 (hi64 T))).setCell ⟨bb, 1, none⟩ (.int .u64 (lo64 T)) = W at *
    have ll : w.heap.size + 1 + 1 < bb := hbb
    have uu := uS
    obtain ⟨⟨y0, y1, -⟩, -, -⟩ := uu
    go_wp2_with fail
    refine (HRM.out _ HTF.out).mono ?_; rintro e w11 ⟨rfl, hb11⟩
    have t11 := T3.keep tS hb11
    have u11 := fbox_keep uS hb11
    clear y0 y1 hb11
    go_wp2_with fail
    refine (HC2.out _).mono ?_; rintro e w12 ⟨rfl, q', rfl⟩
    have t12 := T3.keep t11 (below_drewN (Below.refl w11.heap.size w11) q')
    have u12 := fbox_keep u11 (below_drewN (Below.refl w11.heap.size w11) q')
    go_wp2_with fail
    have t13 := t12.keep (Below.refl _ _).drew
    have u13 := fbox_keep u12 (Below.refl _ _).drew
    obtain ⟨-, q1, -, q3, -⟩ := t13.cells
    have uu := u13
    obtain ⟨⟨y0, y1, -⟩, -, -⟩ := uu
    go_region_held3 (fun w' => w'.cell? ⟨w.heap.size, 1, none⟩ = some (.int .i64 fd) ∧ w'.cell? ⟨w.heap.size + 1, 1, none⟩ = some (.int .i64 gd) ∧ w'.cell? ⟨bb, 0, none⟩ = some (.int .u64 (hi64 T)) ∧ w'.cell? ⟨bb, 1, none⟩ = some (.int .u64 (lo64 T))) ((first | exact ⟨q1, q3, y0, y1⟩ | exact ⟨z1, z3, z4, z5⟩ | (refine ⟨?_, ?_, ?_, ?_⟩ <;> (rw [World.cell?_setCell_far _ _ _ _ (by first | omega | (simp; omega) | simp), World.cell?_setCell_far _ _ _ _ (by first | omega | (simp; omega) | simp)]; assumption))))
        (first
          | (go_at_call 75; refine (HOV.out _).mono ?_; rintro e w14 ⟨rfl, hb14⟩; have t14 := T3.keep t13 hb14; have u14 := fbox_keep u13 hb14; obtain ⟨-, z1, -, z3, -⟩ := t14.cells; have uu := u14; obtain ⟨⟨z4, z5, -⟩, -, -⟩ := uu)
          | (go_at_call 71; refine (HP3.out _).mono ?_; rintro e w15 ⟨rfl, hb15⟩; have t15 := T3.keep t14 hb15; have u15 := fbox_keep u14 hb15; obtain ⟨-, z1, -, z3, -⟩ := t15.cells; have uu := u15; obtain ⟨⟨z4, z5, -⟩, -, -⟩ := uu)
          | (go_at_call 74; refine (HFO.out _).mono ?_; rintro e w16 ⟨rfl, hb16⟩; have t16 := T3.keep t15 hb16; have u16 := fbox_keep u15 hb16; obtain ⟨-, z1, -, z3, -⟩ := t16.cells; have uu := u16; obtain ⟨⟨z4, z5, -⟩, -, -⟩ := uu; have tt := t16; obtain ⟨-, -, ⟨⟨z6, z7, -⟩, z8, z9⟩, -⟩ := tt))
    have tb := t16.2.2.2
    go_wp2_with fail
    refine bodyPost_ret (v := .tuple #[.agg #[.int .i64 X, .int .i64 Y], .bool Z]) (by simp [results, Try.results22, go_sem, z6, z7]) rfl ⟨rfl, ?_⟩
    exact (tb.setCell (by simp; omega) _).setCell (by simp; omega) _
  · have uT : FBox w10 w8.heap.size (.int .u64 0) (.int .u64 0) := ⟨⟨x0, x1, by simpa using x5⟩, x2, x3⟩
    have uS := fbox_set uT (.int .u64 (hi64 T)) (.int .u64 (lo64 T))
    have hbb := l8
    have tS := T3.stored t10 (bb := w8.heap.size) (.int .u64 (hi64 T)) (.int .u64 (lo64 T)) (by omega) (by omega) (by omega) (by omega)
    clear uT x0 x1 x2 x3 x5
    generalize w8.heap.size = bb at *
    generalize (w10.setCell ⟨bb, 0, none⟩ (.int .u64 (hi64 T))).setCell ⟨bb, 1, none⟩ (.int .u64 (lo64 T)) = W at *
    have ll : w.heap.size + 1 + 1 < bb := hbb
    have uu := uS
    obtain ⟨⟨y0, y1, -⟩, -, -⟩ := uu
    go_wp2_with fail
    refine (HRM.out _ HTF.out).mono ?_; rintro e w11 ⟨rfl, hb11⟩
    have t11 := T3.keep tS hb11
    have u11 := fbox_keep uS hb11
    clear y0 y1 hb11
    go_wp2_with fail
    refine (HC2.out _).mono ?_; rintro e w12 ⟨rfl, q', rfl⟩
    have t12 := T3.keep t11 (below_drewN (Below.refl w11.heap.size w11) q')
    have u12 := fbox_keep u11 (below_drewN (Below.refl w11.heap.size w11) q')
    go_wp2_with fail
    have t13 := t12.keep (Below.refl _ _).drew
    have u13 := fbox_keep u12 (Below.refl _ _).drew
    obtain ⟨-, q1, -, q3, -⟩ := t13.cells
    have uu := u13
    obtain ⟨⟨y0, y1, -⟩, -, -⟩ := uu
    go_region_held3 (fun w' => w'.cell? ⟨w.heap.size, 1, none⟩ = some (.int .i64 fd) ∧ w'.cell? ⟨w.heap.size + 1, 1, none⟩ = some (.int .i64 gd) ∧ w'.cell? ⟨bb, 0, none⟩ = some (.int .u64 (hi64 T)) ∧ w'.cell? ⟨bb, 1, none⟩ = some (.int .u64 (lo64 T))) ((first | exact ⟨q1, q3, y0, y1⟩ | exact ⟨z1, z3, z4, z5⟩ | (refine ⟨?_, ?_, ?_, ?_⟩ <;> (rw [World.cell?_setCell_far _ _ _ _ (by first | omega | (simp; omega) | simp), World.cell?_setCell_far _ _ _ _ (by first | omega | (simp; omega) | simp)]; assumption))))
        (first
          | (go_at_call 75; refine (HOV.out _).mono ?_; rintro e w14 ⟨rfl, hb14⟩; have t14 := T3.keep t13 hb14; have u14 := fbox_keep u13 hb14; obtain ⟨-, z1, -, z3, -⟩ := t14.cells; have uu := u14; obtain ⟨⟨z4, z5, -⟩, -, -⟩ := uu)
          | (go_at_call 71; refine (HP3.out _).mono ?_; rintro e w15 ⟨rfl, hb15⟩; have t15 := T3.keep t14 hb15; have u15 := fbox_keep u14 hb15; obtain ⟨-, z1, -, z3, -⟩ := t15.cells; have uu := u15; obtain ⟨⟨z4, z5, -⟩, -, -⟩ := uu)
          | (go_at_call 74; refine (HFO.out _).mono ?_; rintro e w16 ⟨rfl, hb16⟩; have t16 := T3.keep t15 hb16; have u16 := fbox_keep u15 hb16; obtain ⟨-, z1, -, z3, -⟩ := t16.cells; have uu := u16; obtain ⟨⟨z4, z5, -⟩, -, -⟩ := uu; have tt := t16; obtain ⟨-, -, ⟨⟨z6, z7, -⟩, z8, z9⟩, -⟩ := tt))
    have tb := t16.2.2.2
    go_wp2_with fail
    refine bodyPost_ret (v := .tuple #[.agg #[.int .i64 X, .int .i64 Y], .bool Z]) (by simp [results, Try.results22, go_sem, z6, z7]) rfl ⟨rfl, ?_⟩
    exact (tb.setCell (by simp; omega) _).setCell (by simp; omega) _
  · have uT : FBox w10 w2.heap.size (.int .u64 0) (.int .u64 0) := ⟨⟨x0, x1, by simpa using x5⟩, x2, x3⟩
    have uS := fbox_set uT (.int .u64 (hi64 T)) (.int .u64 (lo64 T))
    have hbb := l0
    have tS := T3.stored t10 (bb := w2.heap.size) (.int .u64 (hi64 T)) (.int .u64 (lo64 T)) (by omega) (by omega) (by omega) (by omega)
    clear uT x0 x1 x2 x3 x5
    generalize w2.heap.size = bb at *
    generalize (w10.setCell ⟨bb, 0, none⟩ (.int .u64 (hi64 T))).setCell ⟨bb, 1, none⟩ (.int .u64 (lo64 T)) = W at *
    have ll : w.heap.size + 1 + 1 < bb := hbb
    have uu := uS
    obtain ⟨⟨y0, y1, -⟩, -, -⟩ := uu
    go_wp2_with fail
    refine (HRM.out _ HTF.out).mono ?_; rintro e w11 ⟨rfl, hb11⟩
    have t11 := T3.keep tS hb11
    have u11 := fbox_keep uS hb11
    clear y0 y1 hb11
    go_wp2_with fail
    refine (HC2.out _).mono ?_; rintro e w12 ⟨rfl, q', rfl⟩
    have t12 := T3.keep t11 (below_drewN (Below.refl w11.heap.size w11) q')
    have u12 := fbox_keep u11 (below_drewN (Below.refl w11.heap.size w11) q')
    go_wp2_with fail
    have t13 := t12.keep (Below.refl _ _).drew
    have u13 := fbox_keep u12 (Below.refl _ _).drew
    obtain ⟨-, q1, -, q3, -⟩ := t13.cells
    have uu := u13
    obtain ⟨⟨y0, y1, -⟩, -, -⟩ := uu
    go_region_held3 (fun w' => w'.cell? ⟨w.heap.size, 1, none⟩ = some (.int .i64 fd) ∧ w'.cell? ⟨w.heap.size + 1, 1, none⟩ = some (.int .i64 gd) ∧ w'.cell? ⟨bb, 0, none⟩ = some (.int .u64 (hi64 T)) ∧ w'.cell? ⟨bb, 1, none⟩ = some (.int .u64 (lo64 T))) ((first | exact ⟨q1, q3, y0, y1⟩ | exact ⟨z1, z3, z4, z5⟩ | (refine ⟨?_, ?_, ?_, ?_⟩ <;> (rw [World.cell?_setCell_far _ _ _ _ (by first | omega | (simp; omega) | simp), World.cell?_setCell_far _ _ _ _ (by first | omega | (simp; omega) | simp)]; assumption))))
        (first
          | (go_at_call 75; refine (HOV.out _).mono ?_; rintro e w14 ⟨rfl, hb14⟩; have t14 := T3.keep t13 hb14; have u14 := fbox_keep u13 hb14; obtain ⟨-, z1, -, z3, -⟩ := t14.cells; have uu := u14; obtain ⟨⟨z4, z5, -⟩, -, -⟩ := uu)
          | (go_at_call 71; refine (HP3.out _).mono ?_; rintro e w15 ⟨rfl, hb15⟩; have t15 := T3.keep t14 hb15; have u15 := fbox_keep u14 hb15; obtain ⟨-, z1, -, z3, -⟩ := t15.cells; have uu := u15; obtain ⟨⟨z4, z5, -⟩, -, -⟩ := uu)
          | (go_at_call 74; refine (HFO.out _).mono ?_; rintro e w16 ⟨rfl, hb16⟩; have t16 := T3.keep t15 hb16; have u16 := fbox_keep u15 hb16; obtain ⟨-, z1, -, z3, -⟩ := t16.cells; have uu := u16; obtain ⟨⟨z4, z5, -⟩, -, -⟩ := uu; have tt := t16; obtain ⟨-, -, ⟨⟨z6, z7, -⟩, z8, z9⟩, -⟩ := tt))
    have tb := t16.2.2.2
    go_wp2_with fail
    refine bodyPost_ret (v := .tuple #[.agg #[.int .i64 X, .int .i64 Y], .bool Z]) (by simp [results, Try.results22, go_sem, z6, z7]) rfl ⟨rfl, ?_⟩
    exact (tb.setCell (by simp; omega) _).setCell (by simp; omega) _
end Go.Proofs.Ytmhdjimdhcephab

namespace Go.Proofs.Ytmhdjimdhcephab
open Go Go.RowKit
set_option linter.unusedVariables false

/-- What AddFractions answers. -/
def agN (fn gn fd gd : Int) : Int := if fIs fn fd = true ∧ fIs gn gd = true then foN (adN fn gn fd.toNat gd.toNat) (adM fn gn fd.toNat gd.toNat) else 0
def agD (fn gn fd gd : Int) : Int := if fIs fn fd = true ∧ fIs gn gd = true then foD (adN fn gn fd.toNat gd.toNat) (adM fn gn fd.toNat gd.toNat) else 0
def agB (fn gn fd gd : Int) : Bool := if fIs fn fd = true ∧ fIs gn gd = true then (ptB (adN fn gn fd.toNat gd.toNat) && ptB (adM fn gn fd.toNat gd.toNat)) else false
set_option maxRecDepth 100000 in
theorem add_impl (fn fd gn gd : Int) (w : World) (wf1 : -9223372036854775808 ≤ fn) (wf2 : fn ≤ 9223372036854775807) (wg1 : -9223372036854775808 ≤ gn) (wg2 : gn ≤ 9223372036854775807) :
    Calls Try.prog 22 #[.agg #[.int .i64 fn, .int .i64 fd], .agg #[.int .i64 gn, .int .i64 gd]] w fun e w' => e = .returned (.tuple #[.agg #[.int .i64 (agN fn gn fd gd), .int .i64 (agD fn gn fd gd)], .bool (agB fn gn fd gd)]) ∧ Below w.heap.size w w' := by
  have F0 := Lib.hid (fbox_alloc (fbox_alloc (fbox_new w (.int .i64 fn) (.int .i64 fd) 24) (.cells #[.int .i64 gn, .int .i64 gd] 24)) (.cells #[.int .i64 0, .int .i64 0] 24))
  have G0 := Lib.hid (fbox_alloc (fbox_new (w.alloc (.cells #[.int .i64 fn, .int .i64 fd] 24)) (.int .i64 gn) (.int .i64 gd) 24) (.cells #[.int .i64 0, .int .i64 0] 24))
  have R0 := Lib.hid (fbox_new ((w.alloc (.cells #[.int .i64 fn, .int .i64 fd] 24)).alloc (.cells #[.int .i64 gn, .int .i64 gd] 24)) (.int .i64 0) (.int .i64 0) 24)
  have B0 := Lib.hid (balloc (balloc (balloc (Below.refl w.heap.size w) (.cells #[.int .i64 fn, .int .i64 fd] 24)) (.cells #[.int .i64 gn, .int .i64 gd] 24)) (.cells #[.int .i64 0, .int .i64 0] 24))
  cases hf : fIs fn fd
  · have HF := Lib.hid hf
    have e1 : agN fn gn fd gd = 0 := if_neg (fun h => by rw [h.1] at hf; cases hf)
    have e2 : agD fn gn fd gd = 0 := if_neg (fun h => by rw [h.1] at hf; cases hf)
    have e3 : agB fn gn fd gd = false := if_neg (fun h => by rw [h.1] at hf; cases hf)
    rw [e1, e2, e3]
    clear e1 e2 e3 hf
    go_enter Try.func22, Try.ntmps22
    go_wp2_with fail
    refine (validFraction_impl _ _ _ wf1 wf2).mono ?_; rintro e w1 ⟨rfl, hb1⟩
    rw [HF.out]
    have R1 := Lib.hid (fbox_keep R0.out hb1)
    have B1 := Lib.hid (bnext B0.out hb1)
    clear hb1
    obtain ⟨⟨q0, q1, -⟩, q2, q3⟩ := R1.out
    simp at q0 q1 q2 q3
    go_wp2_with fail
    refine bodyPost_ret (v := .tuple #[.agg #[.int .i64 0, .int .i64 0], .bool false]) (by simp [results, Try.results22, go_sem, q0, q1]) rfl ⟨rfl, ?_⟩
    exact (B1.out.setCell (by simp; omega) _).setCell (by simp; omega) _
  · have HF := Lib.hid hf
    cases hg : fIs gn gd
    · have HG := Lib.hid hg
      have e1 : agN fn gn fd gd = 0 := if_neg (fun h => by rw [h.2] at hg; cases hg)
      have e2 : agD fn gn fd gd = 0 := if_neg (fun h => by rw [h.2] at hg; cases hg)
      have e3 : agB fn gn fd gd = false := if_neg (fun h => by rw [h.2] at hg; cases hg)
      rw [e1, e2, e3]
      clear e1 e2 e3 hf hg
      go_enter Try.func22, Try.ntmps22
      go_wp2_with fail
      refine (validFraction_impl _ _ _ wf1 wf2).mono ?_; rintro e w1 ⟨rfl, hb1⟩
      rw [HF.out]
      have G1 := Lib.hid (fbox_keep G0.out hb1)
      have R1 := Lib.hid (fbox_keep R0.out hb1)
      have B1 := Lib.hid (bnext B0.out hb1)
      clear hb1
      obtain ⟨⟨q0, q1, -⟩, -, -⟩ := G1.out
      simp at q0 q1
      go_wp2_with fail
      refine (validFraction_impl _ _ _ wg1 wg2).mono ?_; rintro e w2 ⟨rfl, hb2⟩
      rw [HG.out]
      have R2 := Lib.hid (fbox_keep R1.out hb2)
      have B2 := Lib.hid (bnext B1.out hb2)
      clear hb2 q0 q1
      obtain ⟨⟨q0, q1, -⟩, q2, q3⟩ := R2.out
      simp at q0 q1 q2 q3
      go_wp2_with fail
      refine bodyPost_ret (v := .tuple #[.agg #[.int .i64 0, .int .i64 0], .bool false]) (by simp [results, Try.results22, go_sem, q0, q1]) rfl ⟨rfl, ?_⟩
      exact (B2.out.setCell (by simp; omega) _).setCell (by simp; omega) _
    · have e1 : agN fn gn fd gd = foN (adN fn gn fd.toNat gd.toNat) (adM fn gn fd.toNat gd.toNat) := if_pos ⟨hf, hg⟩
      have e2 : agD fn gn fd gd = foD (adN fn gn fd.toNat gd.toNat) (adM fn gn fd.toNat gd.toNat) := if_pos ⟨hf, hg⟩
      have e3 : agB fn gn fd gd = (ptB (adN fn gn fd.toNat gd.toNat) && ptB (adM fn gn fd.toNat gd.toNat)) := if_pos ⟨hf, hg⟩
      rw [e1, e2, e3]
      obtain ⟨⟨f3, f4⟩, -, -⟩ := fIs_bd hf
      obtain ⟨⟨g3, g4⟩, -, -⟩ := fIs_bd hg
      have h := add_yes fn gn fd.toNat gd.toNat w (by rw [Int.toNat_of_nonneg (by omega)]; exact hf) (by rw [Int.toNat_of_nonneg (by omega)]; exact hg)
      rw [Int.toNat_of_nonneg (by omega), Int.toNat_of_nonneg (by omega)] at h
      exact h
end Go.Proofs.Ytmhdjimdhcephab

namespace Go.Proofs.Ytmhdjimdhcephab
open Go Go.RowKit
set_option linter.unusedVariables false

theorem fIs_neg (n d : Int) : fIs (-n) d = fIs n d := by
  unfold fIs
  rw [Int.natAbs_neg]
  exact decide_eq_decide.2 ⟨fun ⟨a, b, c, e, f⟩ => ⟨a, b, by omega, by omega, f⟩, fun ⟨a, b, c, e, f⟩ => ⟨a, b, by omega, by omega, f⟩⟩
set_option maxRecDepth 100000 in
theorem sub_impl (fn fd gn gd : Int) (w : World) (wf1 : -9223372036854775808 ≤ fn) (wf2 : fn ≤ 9223372036854775807) (wg1 : -9223372036854775808 ≤ gn) (wg2 : gn ≤ 9223372036854775807) :
    Calls Try.prog 24 #[.agg #[.int .i64 fn, .int .i64 fd], .agg #[.int .i64 gn, .int .i64 gd]] w fun e w' => e = .returned (.tuple #[.agg #[.int .i64 (agN fn (-gn) fd gd), .int .i64 (agD fn (-gn) fd gd)], .bool (agB fn (-gn) fd gd)]) ∧ Below w.heap.size w w' := by
  have F0 := Lib.hid (fbox_alloc (fbox_alloc (fbox_new w (.int .i64 fn) (.int .i64 fd) 24) (.cells #[.int .i64 gn, .int .i64 gd] 24)) (.cells #[.int .i64 0, .int .i64 0] 24))
  have G0 := Lib.hid (fbox_alloc (fbox_new (w.alloc (.cells #[.int .i64 fn, .int .i64 fd] 24)) (.int .i64 gn) (.int .i64 gd) 24) (.cells #[.int .i64 0, .int .i64 0] 24))
  have R0 := Lib.hid (fbox_new ((w.alloc (.cells #[.int .i64 fn, .int .i64 fd] 24)).alloc (.cells #[.int .i64 gn, .int .i64 gd] 24)) (.int .i64 0) (.int .i64 0) 24)
  have B0 := Lib.hid (balloc (balloc (balloc (Below.refl w.heap.size w) (.cells #[.int .i64 fn, .int .i64 fd] 24)) (.cells #[.int .i64 gn, .int .i64 gd] 24)) (.cells #[.int .i64 0, .int .i64 0] 24))
  cases hg : fIs gn gd
  · have HG := Lib.hid hg
    have hn := (fIs_neg gn gd).trans hg
    have e1 : agN fn (-gn) fd gd = 0 := if_neg (fun h => by rw [h.2] at hn; cases hn)
    have e2 : agD fn (-gn) fd gd = 0 := if_neg (fun h => by rw [h.2] at hn; cases hn)
    have e3 : agB fn (-gn) fd gd = false := if_neg (fun h => by rw [h.2] at hn; cases hn)
    rw [e1, e2, e3]
    clear e1 e2 e3 hg hn
    go_enter Try.func24, Try.ntmps24
    go_wp2_with fail
    refine (validFraction_impl _ _ _ wg1 wg2).mono ?_; rintro e w1 ⟨rfl, hb1⟩
    rw [HG.out]
    have R1 := Lib.hid (fbox_keep R0.out hb1)
    have B1 := Lib.hid (bnext B0.out hb1)
    clear hb1
    obtain ⟨⟨q0, q1, -⟩, q2, q3⟩ := R1.out
    simp at q0 q1 q2 q3
    go_wp2_with fail
    refine bodyPost_ret (v := .tuple #[.agg #[.int .i64 0, .int .i64 0], .bool false]) (by simp [results, Try.results24, go_sem, q0, q1]) rfl ⟨rfl, ?_⟩
    exact (B1.out.setCell (by simp; omega) _).setCell (by simp; omega) _
  · have HG := Lib.hid hg
    obtain ⟨-, g1, g2⟩ := fIs_bd hg
    have wn : IntKind.i64.wrap (-gn) = -gn := IntWalk.i64_in _ (by omega)
    have HAD := Lib.hid (fun W => add_impl fn fd (-gn) gd W wf1 wf2 (by omega) (by omega))
    generalize agN fn (-gn) fd gd = X at *
    generalize agD fn (-gn) fd gd = Y at *
    generalize agB fn (-gn) fd gd = Z at *
    clear hg
    go_enter Try.func24, Try.ntmps24
    go_wp2_with fail
    refine (validFraction_impl _ _ _ wg1 wg2).mono ?_; rintro e w1 ⟨rfl, hb1⟩
    rw [HG.out]
    have F1 := Lib.hid (fbox_keep F0.out hb1)
    have G1 := Lib.hid (fbox_keep G0.out hb1)
    have R1 := Lib.hid (fbox_keep R0.out hb1)
    have B1 := Lib.hid (bnext B0.out hb1)
    clear hb1
    obtain ⟨⟨p0, p1, -⟩, -, -⟩ := F1.out
    obtain ⟨⟨q0, q1, -⟩, -, -⟩ := G1.out
    simp at p0 p1 q0 q1
    go_wp2_with fail
    refine (HAD.out _).mono ?_; rintro e w2 ⟨rfl, hb2⟩
    have R2 := Lib.hid (fbox_keep R1.out hb2)
    have B2 := Lib.hid (bnext B1.out hb2)
    clear hb2 p0 p1 q0 q1
    obtain ⟨⟨q0, q1, -⟩, q2, q3⟩ := R2.out
    simp at q0 q1 q2 q3
    go_wp2_with fail
    refine bodyPost_ret (v := .tuple #[.agg #[.int .i64 X, .int .i64 Y], .bool Z]) (by simp [results, Try.results24, go_sem, q0, q1]) rfl ⟨rfl, ?_⟩
    exact (B2.out.setCell (by simp; omega) _).setCell (by simp; omega) _
end Go.Proofs.Ytmhdjimdhcephab

namespace Go.Proofs.Ytmhdjimdhcephab
open Go Go.RowKit
set_option linter.unusedVariables false

theorem fbox_far {W : World} {a b : Nat} {x y : Value} (h : FBox W b x y) (hne : a ≠ b) (u v : Value) : FBox ((W.setCell ⟨a, 0, none⟩ u).setCell ⟨a, 1, none⟩ v) b x y := by
  have e : (W.setCell ⟨a, 0, none⟩ u).setCell ⟨a, 1, none⟩ v = W.setCells a 0 [u, v] := rfl
  have hsz : W.heap.size ≤ ((W.setCell ⟨a, 0, none⟩ u).setCell ⟨a, 1, none⟩ v).heap.size := (((Below.refl 0 W).setCell (p := ⟨a, 0, none⟩) (Nat.zero_le _) u).setCell (p := ⟨a, 1, none⟩) (Nat.zero_le _) v).size
  have hb := h.1.2.2
  refine ⟨⟨?_, ?_, by omega⟩, ?_, ?_⟩
  · rw [World.cell?_setCell_far _ _ _ _ (by simpa using hne), World.cell?_setCell_far _ _ _ _ (by simpa using hne)]; exact h.1.1
  · rw [World.cell?_setCell_far _ _ _ _ (by simpa using hne), World.cell?_setCell_far _ _ _ _ (by simpa using hne)]; exact h.1.2.1
  · rw [e, World.frozen?_setCells]; exact h.2.1
  · rw [e, World.frozen?_setCells]; exact h.2.2
theorem T3.set {w W : World} {a c r : Nat} {A B C D X Y : Value} (h : T3 w W a c r A B C D X Y) (h1 : a ≠ c) (h2 : a ≠ r) (h3 : w.heap.size ≤ a) (A' B' : Value) : T3 w ((W.setCell ⟨a, 0, none⟩ A').setCell ⟨a, 1, none⟩ B') a c r A' B' C D X Y :=
  ⟨fbox_set h.1 A' B', fbox_far h.2.1 h1 _ _, fbox_far h.2.2.1 h2 _ _, (h.2.2.2.setCell (p := ⟨a, 0, none⟩) h3 _).setCell (p := ⟨a, 1, none⟩) h3 _⟩
/-- The fraction behind k products, and whether it is valid. -/
def tpS (fn fd gn gd : Int) : Nat → Int × Int × Bool
  | 0 => (fn, fd, fIs fn fd)
  | k + 1 => (mlN (tpS fn fd gn gd k).1 (tpS fn fd gn gd k).2.1 gn gd, mlD (tpS fn fd gn gd k).1 (tpS fn fd gn gd k).2.1 gn gd, mlB (tpS fn fd gn gd k).1 (tpS fn fd gn gd k).2.1 gn gd)
theorem mlN_bd (fn fd gn gd : Int) : -1000000000000000000 ≤ mlN fn fd gn gd ∧ mlN fn fd gn gd ≤ 1000000000000000000 := by
  unfold mlN
  split
  · unfold foN
    split
    · rename_i h; exact of_decide_eq_true h.1
    · omega
  · omega
theorem tpS_bd {fn fd gn gd : Int} (h1 : -9223372036854775808 ≤ fn) (h2 : fn ≤ 9223372036854775807) : ∀ k, -9223372036854775808 ≤ (tpS fn fd gn gd k).1 ∧ (tpS fn fd gn gd k).1 ≤ 9223372036854775807
  | 0 => ⟨h1, h2⟩
  | k + 1 => by
    have := mlN_bd (tpS fn fd gn gd k).1 (tpS fn fd gn gd k).2.1 gn gd
    rw [tpS]
    omega
set_option maxRecDepth 100000 in
set_option maxHeartbeats 2000000 in
theorem timesPower_any (fn fd gn gd : Int) (n : Nat) (w : World) (hn : n ≤ 1000) (wf1 : -9223372036854775808 ≤ fn) (wf2 : fn ≤ 9223372036854775807) (wg1 : -9223372036854775808 ≤ gn) (wg2 : gn ≤ 9223372036854775807) :
    Calls Try.prog 64 #[.agg #[.int .i64 fn, .int .i64 fd], .agg #[.int .i64 gn, .int .i64 gd], .int .i64 (n : Int)] w fun e w' => e = .returned (.tuple #[.agg #[.int .i64 (tpS fn fd gn gd n).1, .int .i64 (tpS fn fd gn gd n).2.1], .bool (tpS fn fd gn gd n).2.2]) ∧ Below w.heap.size w w' := by
  have F0 := Lib.hid (fbox_alloc (fbox_alloc (fbox_new w (.int .i64 fn) (.int .i64 fd) 24) (.cells #[.int .i64 gn, .int .i64 gd] 24)) (.cells #[.int .i64 0, .int .i64 0] 24))
  have G0 := Lib.hid (fbox_alloc (fbox_new (w.alloc (.cells #[.int .i64 fn, .int .i64 fd] 24)) (.int .i64 gn) (.int .i64 gd) 24) (.cells #[.int .i64 0, .int .i64 0] 24))
  have R0 := Lib.hid (fbox_new ((w.alloc (.cells #[.int .i64 fn, .int .i64 fd] 24)).alloc (.cells #[.int .i64 gn, .int .i64 gd] 24)) (.int .i64 0) (.int .i64 0) 24)
  have B0 := Lib.hid (balloc (balloc (balloc (Below.refl w.heap.size w) (.cells #[.int .i64 fn, .int .i64 fd] 24)) (.cells #[.int .i64 gn, .int .i64 gd] 24)) (.cells #[.int .i64 0, .int .i64 0] 24))
  have e1 : (w.alloc (.cells #[.int .i64 fn, .int .i64 fd] 24)).heap.size = w.heap.size + 1 := by simp
  have e2 : ((w.alloc (.cells #[.int .i64 fn, .int .i64 fd] 24)).alloc (.cells #[.int .i64 gn, .int .i64 gd] 24)).heap.size = w.heap.size + 1 + 1 := by simp
  have t0 : T3 w _ _ _ _ _ _ _ _ _ _ := ⟨F0.out, G0.out, R0.out, B0.out⟩
  rw [e1, e2] at t0
  have TT0 := Lib.hid t0
  have HB := Lib.hid (fun k => tpS_bd (fd := fd) (gn := gn) (gd := gd) wf1 wf2 k)
  clear t0 e1 e2 F0 G0 R0 B0
  go_enter Try.func64, Try.ntmps64
  go_wp2_with fail
  refine (validFraction_impl _ _ _ wf1 wf2).mono ?_; rintro e w1 ⟨rfl, hb1⟩
  have T1 := Lib.hid (T3.keep TT0.out hb1)
  clear hb1 TT0
  go_wp2_with fail
  go_loopw [8, 12] (fun ok i wr => ∃ k : Nat, k ≤ n ∧ i = .int .i64 k ∧ ok = .bool (tpS fn fd gn gd k).2.2 ∧ T3 w wr w.heap.size (w.heap.size + 1) (w.heap.size + 1 + 1) (.int .i64 (tpS fn fd gn gd k).1) (.int .i64 (tpS fn fd gn gd k).2.1) (.int .i64 gn) (.int .i64 gd) (.int .i64 0) (.int .i64 0)) (fun _ i _ => n - (intOf i).toNat)
  case atStart => exact ⟨0, Nat.zero_le _, rfl, rfl, T1.out⟩
  case round =>
    obtain ⟨k, hk, rfl, rfl, ht⟩ := hrel
    have HT := Lib.hid ht
    clear ht T1
    by_cases hlt : k < n
    · have hk1 : (k : Int) < (n : Int) := by omega
      have wk : IntKind.i64.wrap ((k : Int) + 1) = (k : Int) + 1 := IntWalk.i64_in _ (by omega)
      obtain ⟨b1, b2⟩ := HB.out k
      have HM := Lib.hid (fun W => mul_impl (tpS fn fd gn gd k).1 (tpS fn fd gn gd k).2.1 gn gd W b1 b2 wg1 wg2)
      generalize hx : (tpS fn fd gn gd k).1 = x at *
      generalize hy : (tpS fn fd gn gd k).2.1 = y at *
      generalize hz : (tpS fn fd gn gd k).2.2 = z at *
      have HX := Lib.hid hx
      have HY := Lib.hid hy
      have HZ := Lib.hid hz
      clear hx hy hz
      have HE : Hid (tpS fn fd gn gd (k + 1) = (mlN x y gn gd, mlD x y gn gd, mlB x y gn gd)) := by
        show _ = _
        rw [tpS, HX.out, HY.out]
      generalize mlN x y gn gd = x2 at *
      generalize mlD x y gn gd = y2 at *
      generalize mlB x y gn gd = z2 at *
      obtain ⟨q0, q1, q2, q3, -⟩ := HT.out.cells
      go_wp2_with fail
      refine (HM.out _).mono ?_; rintro e w2 ⟨rfl, hb2⟩
      have T2 := Lib.hid (T3.keep HT.out hb2)
      clear hb2 q0 q1 q2 q3
      obtain ⟨⟨⟨q0, q1, -⟩, q2, q3⟩, -⟩ := T2.out
      have T4 := Lib.hid (T3.set T2.out (by omega) (by omega) (Nat.le_refl _) (.int .i64 x2) (.int .i64 y2))
      go_wp2_with fail
      go_roundw
      case rel => exact ⟨k + 1, by omega, by first | rfl | (congr 1; omega), by rw [HE.out], by rw [HE.out]; exact T4.out⟩
      case measure => first | (simp [intOf]; done) | (simp [intOf]; omega)
    · obtain rfl : k = n := by omega
      obtain ⟨q0, q1, -, -, -⟩ := HT.out.cells
      have tt := HT.out
      obtain ⟨-, -, ⟨⟨z0, z1, -⟩, z2, z3⟩, tb⟩ := tt
      generalize hx : (tpS fn fd gn gd k).1 = x at *
      generalize hy : (tpS fn fd gn gd k).2.1 = y at *
      generalize hz : (tpS fn fd gn gd k).2.2 = z at *
      have HX := Lib.hid hx
      have HY := Lib.hid hy
      have HZ := Lib.hid hz
      clear hx hy hz
      go_wp2_with fail
      refine bodyPost_ret (v := .tuple #[.agg #[.int .i64 x, .int .i64 y], .bool z]) (by simp [results, Try.results64, go_sem, z0, z1]) rfl ⟨by rw [HX.out, HY.out, HZ.out], ?_⟩
      exact (tb.setCell (by simp; omega) _).setCell (by simp; omega) _
end Go.Proofs.Ytmhdjimdhcephab

namespace Go.Proofs.Ytmhdjimdhcephab
open Go Go.RowKit
set_option linter.unusedVariables false

theorem whole_any (n : Int) (w : World) : Calls Try.prog 65 #[.int .i64 n] w fun e w' => e = .returned (.agg #[.int .i64 n, .int .i64 1]) ∧ Below w.heap.size w w' := by
  have R0 := Lib.hid (fbox_new w (.int .i64 0) (.int .i64 0) 24)
  obtain ⟨⟨q0, q1, -⟩, q2, q3⟩ := R0.out
  go_enter Try.func65, Try.ntmps65
  go_wp2_with fail
  first
    | (go_ret; exact ⟨rfl, balloc (Below.refl _ _) _⟩)
    | (refine bodyPost_ret (v := .agg #[.int .i64 n, .int .i64 1]) (by simp [results, Try.results65, go_sem]) rfl ⟨rfl, ?_⟩; first | exact balloc (Below.refl _ _) _ | exact ((balloc (Below.refl _ _) _).setCell (by simp) _).setCell (by simp) _)
/-- What silenceOf answers. -/
def slOk (n pn pd : Int) : Bool := agB 1 (-pn) 1 pd && (rgB 1 12 n && (decide (0 ≤ pn) && decide (0 ≤ agN 1 (-pn) 1 pd)))
def slN (n pn pd : Int) : Int := if slOk n pn pd then agN 1 (-pn) 1 pd else 0
def slD (n pn pd : Int) : Int := if slOk n pn pd then agD 1 (-pn) 1 pd else 0
theorem T3.cells2 {w W : World} {a c r : Nat} {A B C D X Y : Value} (h : T3 w W a c r A B C D X Y) : W.cell? ⟨a, 0, none⟩ = some A ∧ W.cell? ⟨a, 1, none⟩ = some B ∧ T3 w W a c r A B C D X Y := ⟨h.1.1.1, h.1.1.2.1, h⟩
set_option maxRecDepth 100000 in
set_option maxHeartbeats 8000000 in
theorem silence_impl (n pn pd : Int) (w : World) (wg1 : -9223372036854775808 ≤ pn) (wg2 : pn ≤ 9223372036854775807) :
    Calls Try.prog 63 #[.int .i64 n, .agg #[.int .i64 pn, .int .i64 pd]] w fun e w' => e = .returned (.tuple #[.agg #[.int .i64 (slN n pn pd), .int .i64 (slD n pn pd)], .bool (slOk n pn pd)]) ∧ Below w.heap.size w w' := by
  have F0 := fbox_alloc (fbox_new w (.int .i64 pn) (.int .i64 pd) 24) (.cells #[.int .i64 0, .int .i64 0] 24)
  have R0 := fbox_new (w.alloc (.cells #[.int .i64 pn, .int .i64 pd] 24)) (.int .i64 0) (.int .i64 0) 24
  have B0 := balloc (balloc (Below.refl w.heap.size w) (.cells #[.int .i64 pn, .int .i64 pd] 24)) (.cells #[.int .i64 0, .int .i64 0] 24)
  have e1 : (w.alloc (.cells #[.int .i64 pn, .int .i64 pd] 24)).heap.size = w.heap.size + 1 := by simp
  have t0 : T3 w _ _ _ _ _ _ _ _ _ _ := ⟨F0, R0, R0, B0⟩
  rw [e1] at t0
  obtain ⟨W0, hW0⟩ : ∃ W0, W0 = (w.alloc (.cells #[.int .i64 pn, .int .i64 pd] 24)).alloc (.cells #[.int .i64 0, .int .i64 0] 24) := ⟨_, rfl⟩
  rw [← hW0] at t0
  have T0 := Lib.hid t0
  have HW0 := Lib.hid hW0
  clear F0 R0 B0 e1 t0 hW0
  have HW := Lib.hid (fun W => whole_any 1 W)
  have HSB := Lib.hid (fun W => sub_impl 1 1 pn pd W (by omega) (by omega) wg1 wg2)
  have HST := Lib.hid (fun W => areStations_any n W)
  obtain ⟨X, hX⟩ : ∃ X, agN 1 (-pn) 1 pd = X := ⟨_, rfl⟩
  obtain ⟨Y, hY⟩ : ∃ Y, agD 1 (-pn) 1 pd = Y := ⟨_, rfl⟩
  obtain ⟨Z, hZ0⟩ : ∃ Z, agB 1 (-pn) 1 pd = Z := ⟨_, rfl⟩
  rw [hX, hY, hZ0] at HSB
  have HX := Lib.hid hX
  have HY := Lib.hid hY
  have HZ := Lib.hid hZ0
  clear hX hY hZ0
  go_enter Try.func63, Try.ntmps63
  go_wp2_with fail
  rw [← HW0.out]
  have t0 := T3.keep T0.out (Below.refl _ _).drew
  have l0 : w.heap.size + 1 < W0.heap.size := T0.out.2.2.1.1.2.2
  obtain ⟨q0, q1, -⟩ := t0.cells2
  go_region_held3 (fun w' => w'.cell? ⟨w.heap.size, 0, none⟩ = some (.int .i64 pn) ∧ w'.cell? ⟨w.heap.size, 1, none⟩ = some (.int .i64 pd) ∧ T3 w w' w.heap.size (w.heap.size + 1) (w.heap.size + 1) (.int .i64 pn) (.int .i64 pd) (.int .i64 0) (.int .i64 0) (.int .i64 0) (.int .i64 0)) ((first | (with_reducible (refine T3.cells2 ?_; first | assumption | exact T3.made (by assumption) _); done) | (with_reducible refine T3.cells2 (T3.stored (by assumption) _ _ ?_ ?_ ?_ ?_) <;> (first | omega | (simp; omega))) | exact T3.cells2 t0 | exact T3.cells2 (T3.made t0 _) | exact T3.cells2 ((T3.made T0.out _).keep (Below.refl _ _).drew)))
    (first
      | (go_at_call 65; refine (HW.out _).mono ?_; rintro e w8 ⟨rfl, hb8⟩; (first | (have t8 := T3.keep t0 hb8) | (have t8 := T3.keep (T3.made t0 _) hb8; have u8 := fbox_keep (fbox_new _ _ _ _) hb8) | (have t8 := T3.keep ((T3.made T0.out _).keep (Below.refl _ _).drew) hb8; have u8 := fbox_keep (fbox_keep (fbox_new _ _ _ _) (Below.refl _ _).drew) hb8)); have l8 := t8.2.2.1.1.2.2)
      | (go_at_call 24; refine (HSB.out _).mono ?_; rintro e w9 ⟨rfl, hb9⟩; (first | ((with_reducible have t9 := T3.keep t8 hb9); try (have u9 := fbox_keep u8 hb9; obtain ⟨⟨x0, x1, x5⟩, x2, x3⟩ := u9; (try simp at x0); (try simp at x1); (try simp at x2); (try simp at x3))) | ((with_reducible have t9 := T3.keep (T3.made t8 _) hb9); (with_reducible have u9 := fbox_keep (fbox_new _ _ _ _) hb9); obtain ⟨⟨x0, x1, x5⟩, x2, x3⟩ := u9)); have l9 := t9.2.2.1.1.2.2))
  · have tS := T3.made t9 (.cells #[.int .i64 X, .int .i64 Y] 24)
    have uS := fbox_new w9 (.int .i64 X) (.int .i64 Y) 24
    have hbb := l9
    generalize w9.heap.size = bb at *
    generalize w9.alloc (.cells #[.int .i64 X, .int .i64 Y] 24) = W at *
    have tt := tS
    obtain ⟨⟨⟨q0, q1, -⟩, -, -⟩, -, ⟨⟨z0, z1, -⟩, z2, z3⟩, -⟩ := tt
    have uu := uS
    obtain ⟨⟨y0, y1, -⟩, -, -⟩ := uu
    cases hZ : Z
    · have hh := HZ.out.trans hZ
      have e3 : slOk n pn pd = false := by unfold slOk; rw [hh]; simp
      have e1 : slN n pn pd = 0 := by unfold slN; rw [e3]; rfl
      have e2 : slD n pn pd = 0 := by unfold slD; rw [e3]; rfl
      go_wp2_with fail
      refine bodyPost_ret (v := .tuple #[.agg #[.int .i64 0, .int .i64 0], .bool false]) (by simp [results, Try.results63, go_sem, z0, z1]) rfl ⟨by rw [e1, e2, e3], ?_⟩
      exact (tS.2.2.2.setCell (by simp) _).setCell (by simp) _
    · have hh := HZ.out.trans hZ
      go_wp2_with fail
      refine (HST.out _).mono ?_; rintro e w' ⟨rfl, rfl⟩
      cases hR : rgB 1 12 n
      · skip
        have e3 : slOk n pn pd = false := by unfold slOk; rw [hh, hR]; simp
        have e1 : slN n pn pd = 0 := by unfold slN; rw [e3]; rfl
        have e2 : slD n pn pd = 0 := by unfold slD; rw [e3]; rfl
        go_wp2_with fail
        refine bodyPost_ret (v := .tuple #[.agg #[.int .i64 0, .int .i64 0], .bool false]) (by simp [results, Try.results63, go_sem, z0, z1]) rfl ⟨by rw [e1, e2, e3], ?_⟩
        exact (tS.2.2.2.setCell (by simp) _).setCell (by simp) _
      · by_cases hp : pn < 0
        · have hp2 : decide (0 ≤ pn) = false := decide_eq_false (by omega)
          have e3 : slOk n pn pd = false := by unfold slOk; rw [hh, hR, hp2]; simp
          have e1 : slN n pn pd = 0 := by unfold slN; rw [e3]; rfl
          have e2 : slD n pn pd = 0 := by unfold slD; rw [e3]; rfl
          go_wp2_with fail
          refine bodyPost_ret (v := .tuple #[.agg #[.int .i64 0, .int .i64 0], .bool false]) (by simp [results, Try.results63, go_sem, z0, z1]) rfl ⟨by rw [e1, e2, e3], ?_⟩
          exact (tS.2.2.2.setCell (by simp) _).setCell (by simp) _
        · have hp2 : decide (0 ≤ pn) = true := decide_eq_true (by omega)
          by_cases hx : X < 0
          · have hx2 : decide (0 ≤ agN 1 (-pn) 1 pd) = false := decide_eq_false (by rw [HX.out]; omega)
            have e3 : slOk n pn pd = false := by unfold slOk; rw [hh, hR, hp2, hx2]; simp
            have e1 : slN n pn pd = 0 := by unfold slN; rw [e3]; rfl
            have e2 : slD n pn pd = 0 := by unfold slD; rw [e3]; rfl
            go_wp2_with fail
            refine bodyPost_ret (v := .tuple #[.agg #[.int .i64 0, .int .i64 0], .bool false]) (by simp [results, Try.results63, go_sem, z0, z1]) rfl ⟨by rw [e1, e2, e3], ?_⟩
            exact (tS.2.2.2.setCell (by simp) _).setCell (by simp) _
          · have hx2 : decide (0 ≤ agN 1 (-pn) 1 pd) = true := decide_eq_true (by rw [HX.out]; omega)
            have e3 : slOk n pn pd = true := by unfold slOk; rw [hh, hR, hp2, hx2]; rfl
            have e1 : slN n pn pd = X := by unfold slN; rw [e3]; exact HX.out
            have e2 : slD n pn pd = Y := by unfold slD; rw [e3]; exact HY.out
            go_wp2_with fail
            refine bodyPost_ret (v := .tuple #[.agg #[.int .i64 X, .int .i64 Y], .bool true]) (by simp [results, Try.results63, go_sem, z0, z1]) rfl ⟨by rw [e1, e2, e3], ?_⟩
            exact (tS.2.2.2.setCell (by simp) _).setCell (by simp) _
  · have uT : FBox w9 w8.heap.size (.int .i64 0) (.int .i64 0) := ⟨⟨x0, x1, by simpa using x5⟩, x2, x3⟩
    have uS := fbox_set uT (.int .i64 X) (.int .i64 Y)
    have hbb := l8
    have tS := T3.stored t9 (bb := w8.heap.size) (.int .i64 X) (.int .i64 Y) (by omega) (by omega) (by omega) (by omega)
    clear uT x0 x1 x2 x3 x5
    generalize w8.heap.size = bb at *
    generalize (w9.setCell ⟨bb, 0, none⟩ (.int .i64 X)).setCell ⟨bb, 1, none⟩ (.int .i64 Y) = W at *
    have tt := tS
    obtain ⟨⟨⟨q0, q1, -⟩, -, -⟩, -, ⟨⟨z0, z1, -⟩, z2, z3⟩, -⟩ := tt
    have uu := uS
    obtain ⟨⟨y0, y1, -⟩, -, -⟩ := uu
    cases hZ : Z
    · have hh := HZ.out.trans hZ
      have e3 : slOk n pn pd = false := by unfold slOk; rw [hh]; simp
      have e1 : slN n pn pd = 0 := by unfold slN; rw [e3]; rfl
      have e2 : slD n pn pd = 0 := by unfold slD; rw [e3]; rfl
      go_wp2_with fail
      refine bodyPost_ret (v := .tuple #[.agg #[.int .i64 0, .int .i64 0], .bool false]) (by simp [results, Try.results63, go_sem, z0, z1]) rfl ⟨by rw [e1, e2, e3], ?_⟩
      exact (tS.2.2.2.setCell (by simp) _).setCell (by simp) _
    · have hh := HZ.out.trans hZ
      go_wp2_with fail
      refine (HST.out _).mono ?_; rintro e w' ⟨rfl, rfl⟩
      cases hR : rgB 1 12 n
      · skip
        have e3 : slOk n pn pd = false := by unfold slOk; rw [hh, hR]; simp
        have e1 : slN n pn pd = 0 := by unfold slN; rw [e3]; rfl
        have e2 : slD n pn pd = 0 := by unfold slD; rw [e3]; rfl
        go_wp2_with fail
        refine bodyPost_ret (v := .tuple #[.agg #[.int .i64 0, .int .i64 0], .bool false]) (by simp [results, Try.results63, go_sem, z0, z1]) rfl ⟨by rw [e1, e2, e3], ?_⟩
        exact (tS.2.2.2.setCell (by simp) _).setCell (by simp) _
      · by_cases hp : pn < 0
        · have hp2 : decide (0 ≤ pn) = false := decide_eq_false (by omega)
          have e3 : slOk n pn pd = false := by unfold slOk; rw [hh, hR, hp2]; simp
          have e1 : slN n pn pd = 0 := by unfold slN; rw [e3]; rfl
          have e2 : slD n pn pd = 0 := by unfold slD; rw [e3]; rfl
          go_wp2_with fail
          refine bodyPost_ret (v := .tuple #[.agg #[.int .i64 0, .int .i64 0], .bool false]) (by simp [results, Try.results63, go_sem, z0, z1]) rfl ⟨by rw [e1, e2, e3], ?_⟩
          exact (tS.2.2.2.setCell (by simp) _).setCell (by simp) _
        · have hp2 : decide (0 ≤ pn) = true := decide_eq_true (by omega)
          by_cases hx : X < 0
          · have hx2 : decide (0 ≤ agN 1 (-pn) 1 pd) = false := decide_eq_false (by rw [HX.out]; omega)
            have e3 : slOk n pn pd = false := by unfold slOk; rw [hh, hR, hp2, hx2]; simp
            have e1 : slN n pn pd = 0 := by unfold slN; rw [e3]; rfl
            have e2 : slD n pn pd = 0 := by unfold slD; rw [e3]; rfl
            go_wp2_with fail
            refine bodyPost_ret (v := .tuple #[.agg #[.int .i64 0, .int .i64 0], .bool false]) (by simp [results, Try.results63, go_sem, z0, z1]) rfl ⟨by rw [e1, e2, e3], ?_⟩
            exact (tS.2.2.2.setCell (by simp) _).setCell (by simp) _
          · have hx2 : decide (0 ≤ agN 1 (-pn) 1 pd) = true := decide_eq_true (by rw [HX.out]; omega)
            have e3 : slOk n pn pd = true := by unfold slOk; rw [hh, hR, hp2, hx2]; rfl
            have e1 : slN n pn pd = X := by unfold slN; rw [e3]; exact HX.out
            have e2 : slD n pn pd = Y := by unfold slD; rw [e3]; exact HY.out
            go_wp2_with fail
            refine bodyPost_ret (v := .tuple #[.agg #[.int .i64 X, .int .i64 Y], .bool true]) (by simp [results, Try.results63, go_sem, z0, z1]) rfl ⟨by rw [e1, e2, e3], ?_⟩
            exact (tS.2.2.2.setCell (by simp) _).setCell (by simp) _
  · have uT : FBox w9 W0.heap.size (.int .i64 0) (.int .i64 0) := ⟨⟨x0, x1, by simpa using x5⟩, x2, x3⟩
    have uS := fbox_set uT (.int .i64 X) (.int .i64 Y)
    have hbb := l0
    have tS := T3.stored t9 (bb := W0.heap.size) (.int .i64 X) (.int .i64 Y) (by omega) (by omega) (by omega) (by omega)
    clear uT x0 x1 x2 x3 x5
    generalize W0.heap.size = bb at *
    generalize (w9.setCell ⟨bb, 0, none⟩ (.int .i64 X)).setCell ⟨bb, 1, none⟩ (.int .i64 Y) = W at *
    have tt := tS
    obtain ⟨⟨⟨q0, q1, -⟩, -, -⟩, -, ⟨⟨z0, z1, -⟩, z2, z3⟩, -⟩ := tt
    have uu := uS
    obtain ⟨⟨y0, y1, -⟩, -, -⟩ := uu
    cases hZ : Z
    · have hh := HZ.out.trans hZ
      have e3 : slOk n pn pd = false := by unfold slOk; rw [hh]; simp
      have e1 : slN n pn pd = 0 := by unfold slN; rw [e3]; rfl
      have e2 : slD n pn pd = 0 := by unfold slD; rw [e3]; rfl
      go_wp2_with fail
      refine bodyPost_ret (v := .tuple #[.agg #[.int .i64 0, .int .i64 0], .bool false]) (by simp [results, Try.results63, go_sem, z0, z1]) rfl ⟨by rw [e1, e2, e3], ?_⟩
      exact (tS.2.2.2.setCell (by simp) _).setCell (by simp) _
    · have hh := HZ.out.trans hZ
      go_wp2_with fail
      refine (HST.out _).mono ?_; rintro e w' ⟨rfl, rfl⟩
      cases hR : rgB 1 12 n
      · skip
        have e3 : slOk n pn pd = false := by unfold slOk; rw [hh, hR]; simp
        have e1 : slN n pn pd = 0 := by unfold slN; rw [e3]; rfl
        have e2 : slD n pn pd = 0 := by unfold slD; rw [e3]; rfl
        go_wp2_with fail
        refine bodyPost_ret (v := .tuple #[.agg #[.int .i64 0, .int .i64 0], .bool false]) (by simp [results, Try.results63, go_sem, z0, z1]) rfl ⟨by rw [e1, e2, e3], ?_⟩
        exact (tS.2.2.2.setCell (by simp) _).setCell (by simp) _
      · by_cases hp : pn < 0
        · have hp2 : decide (0 ≤ pn) = false := decide_eq_false (by omega)
          have e3 : slOk n pn pd = false := by unfold slOk; rw [hh, hR, hp2]; simp
          have e1 : slN n pn pd = 0 := by unfold slN; rw [e3]; rfl
          have e2 : slD n pn pd = 0 := by unfold slD; rw [e3]; rfl
          go_wp2_with fail
          refine bodyPost_ret (v := .tuple #[.agg #[.int .i64 0, .int .i64 0], .bool false]) (by simp [results, Try.results63, go_sem, z0, z1]) rfl ⟨by rw [e1, e2, e3], ?_⟩
          exact (tS.2.2.2.setCell (by simp) _).setCell (by simp) _
        · have hp2 : decide (0 ≤ pn) = true := decide_eq_true (by omega)
          by_cases hx : X < 0
          · have hx2 : decide (0 ≤ agN 1 (-pn) 1 pd) = false := decide_eq_false (by rw [HX.out]; omega)
            have e3 : slOk n pn pd = false := by unfold slOk; rw [hh, hR, hp2, hx2]; simp
            have e1 : slN n pn pd = 0 := by unfold slN; rw [e3]; rfl
            have e2 : slD n pn pd = 0 := by unfold slD; rw [e3]; rfl
            go_wp2_with fail
            refine bodyPost_ret (v := .tuple #[.agg #[.int .i64 0, .int .i64 0], .bool false]) (by simp [results, Try.results63, go_sem, z0, z1]) rfl ⟨by rw [e1, e2, e3], ?_⟩
            exact (tS.2.2.2.setCell (by simp) _).setCell (by simp) _
          · have hx2 : decide (0 ≤ agN 1 (-pn) 1 pd) = true := decide_eq_true (by rw [HX.out]; omega)
            have e3 : slOk n pn pd = true := by unfold slOk; rw [hh, hR, hp2, hx2]; rfl
            have e1 : slN n pn pd = X := by unfold slN; rw [e3]; exact HX.out
            have e2 : slD n pn pd = Y := by unfold slD; rw [e3]; exact HY.out
            go_wp2_with fail
            refine bodyPost_ret (v := .tuple #[.agg #[.int .i64 X, .int .i64 Y], .bool true]) (by simp [results, Try.results63, go_sem, z0, z1]) rfl ⟨by rw [e1, e2, e3], ?_⟩
            exact (tS.2.2.2.setCell (by simp) _).setCell (by simp) _
end Go.Proofs.Ytmhdjimdhcephab

namespace Go.Proofs.Ytmhdjimdhcephab
open Go Go.RowKit
set_option linter.unusedVariables false

/-- What QuietChance answers. -/
def qcS (n pn pd : Int) : Int × Int × Bool := if slOk n pn pd then tpS 1 1 (slN n pn pd) (slD n pn pd) n.toNat else (0, 0, false)
theorem sl_bd {n pn pd : Int} (h : slOk n pn pd = true) : (1 ≤ n ∧ n ≤ 12) ∧ -1000000000000000000 ≤ slN n pn pd ∧ slN n pn pd ≤ 1000000000000000000 := by
  have hn : slN n pn pd = agN 1 (-pn) 1 pd := by unfold slN; rw [h]; rfl
  unfold slOk at h
  obtain ⟨h1, h2⟩ := Bool.and_eq_true_iff.1 h
  obtain ⟨h3, h4⟩ := Bool.and_eq_true_iff.1 h2
  refine ⟨of_decide_eq_true h3, ?_⟩
  rw [hn]
  unfold agN
  split
  · unfold foN
    split
    · rename_i hh; exact of_decide_eq_true hh.1
    · omega
  · omega
set_option maxRecDepth 100000 in
set_option maxHeartbeats 8000000 in
theorem quiet_impl (n pn pd : Int) (w : World) (wg1 : -9223372036854775808 ≤ pn) (wg2 : pn ≤ 9223372036854775807) :
    Calls Try.prog 17 #[.int .i64 n, .agg #[.int .i64 pn, .int .i64 pd]] w fun e w' => e = .returned (.tuple #[.agg #[.int .i64 (qcS n pn pd).1, .int .i64 (qcS n pn pd).2.1], .bool (qcS n pn pd).2.2]) ∧ Below w.heap.size w w' := by
  have F0 := fbox_alloc (fbox_new w (.int .i64 pn) (.int .i64 pd) 24) (.cells #[.int .i64 0, .int .i64 0] 24)
  have R0 := fbox_new (w.alloc (.cells #[.int .i64 pn, .int .i64 pd] 24)) (.int .i64 0) (.int .i64 0) 24
  have B0 := balloc (balloc (Below.refl w.heap.size w) (.cells #[.int .i64 pn, .int .i64 pd] 24)) (.cells #[.int .i64 0, .int .i64 0] 24)
  have e1 : (w.alloc (.cells #[.int .i64 pn, .int .i64 pd] 24)).heap.size = w.heap.size + 1 := by simp
  have t0 : T3 w _ _ _ _ _ _ _ _ _ _ := ⟨F0, R0, R0, B0⟩
  rw [e1] at t0
  have T0 := Lib.hid t0
  clear F0 R0 B0 e1 t0
  have HSL := Lib.hid (fun W => silence_impl n pn pd W wg1 wg2)
  obtain ⟨q0, q1, -⟩ := T0.out.cells2
  cases hs : slOk n pn pd
  · have e1 : qcS n pn pd = (0, 0, false) := by unfold qcS; rw [hs]; rfl
    rw [e1]
    rw [hs] at HSL
    clear e1 hs
    go_enter Try.func17, Try.ntmps17
    go_wp2_with fail
    refine (HSL.out _).mono ?_; rintro e w1 ⟨rfl, hb1⟩
    have t1 := T3.made (T3.keep T0.out hb1) (.cells #[.int .i64 (slN n pn pd), .int .i64 (slD n pn pd)] 24)
    have tt := t1
    obtain ⟨-, -, ⟨⟨z0, z1, -⟩, z2, z3⟩, tb⟩ := tt
    clear q0 q1
    go_wp2_with fail
    refine bodyPost_ret (v := .tuple #[.agg #[.int .i64 0, .int .i64 0], .bool false]) (by simp [results, Try.results17, go_sem, z0, z1]) rfl ⟨rfl, ?_⟩
    exact (tb.setCell (by simp) _).setCell (by simp) _
  · have e1 : qcS n pn pd = tpS 1 1 (slN n pn pd) (slD n pn pd) n.toNat := by unfold qcS; rw [hs]; rfl
    obtain ⟨⟨n1, n2⟩, b1, b2⟩ := sl_bd hs
    rw [e1]
    rw [hs] at HSL
    clear e1 hs
    obtain ⟨m, rfl⟩ : ∃ m : Nat, n = (m : Int) := ⟨n.toNat, by omega⟩
    rw [Int.toNat_natCast]
    generalize slN m pn pd = x at *
    generalize slD m pn pd = y at *
    have HTP := Lib.hid (fun W => timesPower_any 1 1 x y m W (by omega) (by omega) (by omega) (by omega) (by omega))
    have HW := Lib.hid (fun W => whole_any 1 W)
    generalize (tpS 1 1 x y m).1 = X at *
    generalize (tpS 1 1 x y m).2.1 = Y at *
    generalize (tpS 1 1 x y m).2.2 = Z at *
    go_enter Try.func17, Try.ntmps17
    go_wp2_with fail
    refine (HSL.out _).mono ?_; rintro e w1 ⟨rfl, hb1⟩
    have t1 := T3.made (T3.keep T0.out hb1) (.cells #[.int .i64 x, .int .i64 y] 24)
    have u1 := fbox_new w1 (.int .i64 x) (.int .i64 y) 24
    have l1 : w.heap.size + 1 < w1.heap.size := (T3.keep T0.out hb1).2.2.1.1.2.2
    clear q0 q1 hb1
    go_wp2_with fail
    generalize w1.heap.size = bb at *
    generalize w1.alloc (.cells #[.int .i64 x, .int .i64 y] 24) = W1 at *
    have t2 := t1.keep (Below.refl _ _).drew
    have u2 := fbox_keep u1 (Below.refl _ _).drew
    have uu := u2
    obtain ⟨⟨y0, y1, -⟩, -, -⟩ := uu
    go_region_held3 (fun w' => w'.cell? ⟨bb, 0, none⟩ = some (.int .i64 x) ∧ w'.cell? ⟨bb, 1, none⟩ = some (.int .i64 y)) ((first | exact ⟨y0, y1⟩ | exact ⟨z4, z5⟩ | (refine ⟨?_, ?_⟩ <;> (rw [World.cell?_setCell_far _ _ _ _ (by first | omega | (simp; omega) | simp), World.cell?_setCell_far _ _ _ _ (by first | omega | (simp; omega) | simp)]; assumption)) | (simp [*]; done)))
      (first
        | (go_at_call 65; refine (HW.out _).mono ?_; rintro e w14 ⟨rfl, hb14⟩; have t14 := T3.keep t2 hb14; have u14 := fbox_keep u2 hb14; have uu := u14; obtain ⟨⟨z4, z5, -⟩, -, -⟩ := uu)
        | (go_at_call 64; refine (HTP.out _).mono ?_; rintro e w16 ⟨rfl, hb16⟩; have t16 := T3.keep t14 hb16; have u16 := fbox_keep u14 hb16; have uu := u16; obtain ⟨⟨z4, z5, -⟩, -, -⟩ := uu; have tt := t16; obtain ⟨-, -, ⟨⟨z6, z7, -⟩, z8, z9⟩, -⟩ := tt))
    have tb := t16.2.2.2
    go_wp2_with fail
    refine bodyPost_ret (v := .tuple #[.agg #[.int .i64 X, .int .i64 Y], .bool Z]) (by simp [results, Try.results17, go_sem, z6, z7]) rfl ⟨rfl, ?_⟩
    exact (tb.setCell (by simp) _).setCell (by simp) _
end Go.Proofs.Ytmhdjimdhcephab

namespace Go.Proofs.Ytmhdjimdhcephab
open Go Go.RowKit
set_option linter.unusedVariables false

/-- What SuccessChance answers. -/
def scS (n pn pd : Int) : Int × Int × Bool := if slOk n pn pd then tpS (mlN n 1 pn pd) (mlD n 1 pn pd) (slN n pn pd) (slD n pn pd) (n - 1).toNat else (0, 0, false)
set_option maxRecDepth 100000 in
set_option maxHeartbeats 8000000 in
theorem success_impl (n pn pd : Int) (w : World) (wg1 : -9223372036854775808 ≤ pn) (wg2 : pn ≤ 9223372036854775807) :
    Calls Try.prog 20 #[.int .i64 n, .agg #[.int .i64 pn, .int .i64 pd]] w fun e w' => e = .returned (.tuple #[.agg #[.int .i64 (scS n pn pd).1, .int .i64 (scS n pn pd).2.1], .bool (scS n pn pd).2.2]) ∧ Below w.heap.size w w' := by
  have F0 := fbox_alloc (fbox_new w (.int .i64 pn) (.int .i64 pd) 24) (.cells #[.int .i64 0, .int .i64 0] 24)
  have R0 := fbox_new (w.alloc (.cells #[.int .i64 pn, .int .i64 pd] 24)) (.int .i64 0) (.int .i64 0) 24
  have B0 := balloc (balloc (Below.refl w.heap.size w) (.cells #[.int .i64 pn, .int .i64 pd] 24)) (.cells #[.int .i64 0, .int .i64 0] 24)
  have e1 : (w.alloc (.cells #[.int .i64 pn, .int .i64 pd] 24)).heap.size = w.heap.size + 1 := by simp
  have t0 : T3 w _ _ _ _ _ _ _ _ _ _ := ⟨F0, R0, R0, B0⟩
  rw [e1] at t0
  have T0 := Lib.hid t0
  clear F0 R0 B0 e1 t0
  have HSL := Lib.hid (fun W => silence_impl n pn pd W wg1 wg2)
  obtain ⟨q0, q1, -⟩ := T0.out.cells2
  cases hs : slOk n pn pd
  · have e1 : scS n pn pd = (0, 0, false) := by unfold scS; rw [hs]; rfl
    rw [e1]
    rw [hs] at HSL
    clear e1 hs
    go_enter Try.func20, Try.ntmps20
    go_wp2_with fail
    refine (HSL.out _).mono ?_; rintro e w1 ⟨rfl, hb1⟩
    have t1 := T3.made (T3.keep T0.out hb1) (.cells #[.int .i64 (slN n pn pd), .int .i64 (slD n pn pd)] 24)
    have tt := t1
    obtain ⟨-, -, ⟨⟨z0, z1, -⟩, z2, z3⟩, tb⟩ := tt
    clear q0 q1
    go_wp2_with fail
    refine bodyPost_ret (v := .tuple #[.agg #[.int .i64 0, .int .i64 0], .bool false]) (by simp [results, Try.results20, go_sem, z0, z1]) rfl ⟨rfl, ?_⟩
    exact (tb.setCell (by simp) _).setCell (by simp) _
  · have e1 : scS n pn pd = tpS (mlN n 1 pn pd) (mlD n 1 pn pd) (slN n pn pd) (slD n pn pd) (n - 1).toNat := by unfold scS; rw [hs]; rfl
    obtain ⟨⟨n1, n2⟩, b1, b2⟩ := sl_bd hs
    rw [e1]
    rw [hs] at HSL
    clear e1 hs
    obtain ⟨m, hm⟩ : ∃ m : Nat, m = (n - 1).toNat := ⟨_, rfl⟩
    rw [← hm]
    have hm2 : m ≤ 1000 := by omega
    have wn : IntKind.i64.wrap (n - 1) = (m : Int) := (IntWalk.i64_in _ (by omega)).trans (by omega)
    clear hm
    have HML := Lib.hid (fun W => mul_impl n 1 pn pd W (by omega) (by omega) wg1 wg2)
    obtain ⟨c1, c2⟩ := mlN_bd n 1 pn pd
    generalize slN n pn pd = x at *
    generalize slD n pn pd = y at *
    generalize mlN n 1 pn pd = X at *
    generalize mlD n 1 pn pd = Y at *
    generalize mlB n 1 pn pd = V at *
    have HTP := Lib.hid (fun W => timesPower_any X Y x y m W hm2 (by omega) (by omega) (by omega) (by omega))
    have HW := Lib.hid (fun W => whole_any n W)
    generalize (tpS X Y x y m).1 = RN at *
    generalize (tpS X Y x y m).2.1 = RD at *
    generalize (tpS X Y x y m).2.2 = RZ at *
    go_enter Try.func20, Try.ntmps20
    go_wp2_with fail
    refine (HSL.out _).mono ?_; rintro e w1 ⟨rfl, hb1⟩
    have t1 := T3.made (T3.keep T0.out hb1) (.cells #[.int .i64 x, .int .i64 y] 24)
    have u1 := fbox_new w1 (.int .i64 x) (.int .i64 y) 24
    have l1 : w.heap.size + 1 < w1.heap.size := (T3.keep T0.out hb1).2.2.1.1.2.2
    clear q0 q1 hb1
    go_wp2_with fail
    generalize w1.heap.size = bb1 at *
    generalize w1.alloc (.cells #[.int .i64 x, .int .i64 y] 24) = W0 at *
    have T1 : T3 w W0 w.heap.size bb1 (w.heap.size + 1) (.int .i64 pn) (.int .i64 pd) (.int .i64 x) (.int .i64 y) (.int .i64 0) (.int .i64 0) := ⟨t1.1, u1, t1.2.2.1, t1.2.2.2⟩
    have l0 : bb1 < W0.heap.size := u1.1.2.2
    clear t1 u1
    have t0 := T3.keep T1 (Below.refl _ _).drew
    obtain ⟨q0, q1, -⟩ := t0.cells2
    go_region_held3 (fun w' => w'.cell? ⟨w.heap.size, 0, none⟩ = some (.int .i64 pn) ∧ w'.cell? ⟨w.heap.size, 1, none⟩ = some (.int .i64 pd) ∧ T3 w w' w.heap.size bb1 (w.heap.size + 1) (.int .i64 pn) (.int .i64 pd) (.int .i64 x) (.int .i64 y) (.int .i64 0) (.int .i64 0)) ((first | (with_reducible (refine T3.cells2 ?_; first | assumption | exact T3.made (by assumption) _); done) | (with_reducible refine T3.cells2 (T3.stored (by assumption) _ _ ?_ ?_ ?_ ?_) <;> (first | omega | (simp; omega))) | exact T3.cells2 t0 | exact T3.cells2 (T3.made t0 _) | exact T3.cells2 ((T3.made T1 _).keep (Below.refl _ _).drew)))
      (first
        | (go_at_call 65; refine (HW.out _).mono ?_; rintro e w8 ⟨rfl, hb8⟩; (first | (have t8 := T3.keep t0 hb8) | (have t8 := T3.keep (T3.made t0 _) hb8; have u8 := fbox_keep (fbox_new _ _ _ _) hb8) | (have t8 := T3.keep ((T3.made T1 _).keep (Below.refl _ _).drew) hb8; have u8 := fbox_keep (fbox_keep (fbox_new _ _ _ _) (Below.refl _ _).drew) hb8)); have l8 := t8.2.1.1.2.2)
        | (go_at_call 66; refine (HML.out _).mono ?_; rintro e w9 ⟨rfl, hb9⟩; (first | ((with_reducible have t9 := T3.keep t8 hb9); try (have u9 := fbox_keep u8 hb9; obtain ⟨⟨x0, x1, x5⟩, x2, x3⟩ := u9; (try simp at x0); (try simp at x1); (try simp at x2); (try simp at x3))) | ((with_reducible have t9 := T3.keep (T3.made t8 _) hb9); (with_reducible have u9 := fbox_keep (fbox_new _ _ _ _) hb9); obtain ⟨⟨x0, x1, x5⟩, x2, x3⟩ := u9)); have l9 := t9.2.1.1.2.2))
    · have tS := T3.made t9 (.cells #[.int .i64 X, .int .i64 Y] 24)
      have uS := fbox_new w9 (.int .i64 X) (.int .i64 Y) 24
      generalize w9.heap.size = bb at *
      generalize w9.alloc (.cells #[.int .i64 X, .int .i64 Y] 24) = W at *
      have tt := tS
      obtain ⟨-, ⟨⟨q2, q3, -⟩, -, -⟩, -, -⟩ := tt
      have uu := uS
      obtain ⟨⟨y0, y1, -⟩, -, -⟩ := uu
      go_wp2_with fail
      refine (HTP.out _).mono ?_; rintro e w12 ⟨rfl, hb12⟩
      have t12 := T3.keep tS hb12
      have tt := t12
      obtain ⟨-, -, ⟨⟨z0, z1, -⟩, z2, z3⟩, tb⟩ := tt
      clear q2 q3 y0 y1
      go_wp2_with fail
      refine bodyPost_ret (v := .tuple #[.agg #[.int .i64 RN, .int .i64 RD], .bool RZ]) (by simp [results, Try.results20, go_sem, z0, z1]) rfl ⟨rfl, ?_⟩
      exact (tb.setCell (by simp) _).setCell (by simp) _
    · have uT : FBox w9 w8.heap.size (.int .i64 0) (.int .i64 0) := ⟨⟨x0, x1, by simpa using x5⟩, x2, x3⟩
      have uS := fbox_set uT (.int .i64 X) (.int .i64 Y)
      have tS := T3.stored t9 (bb := w8.heap.size) (.int .i64 X) (.int .i64 Y) (by omega) (by omega) (by omega) (by omega)
      clear uT x0 x1 x2 x3 x5
      generalize w8.heap.size = bb at *
      generalize (w9.setCell ⟨bb, 0, none⟩ (.int .i64 X)).setCell ⟨bb, 1, none⟩ (.int .i64 Y) = W at *
      have tt := tS
      obtain ⟨-, ⟨⟨q2, q3, -⟩, -, -⟩, -, -⟩ := tt
      have uu := uS
      obtain ⟨⟨y0, y1, -⟩, -, -⟩ := uu
      go_wp2_with fail
      refine (HTP.out _).mono ?_; rintro e w12 ⟨rfl, hb12⟩
      have t12 := T3.keep tS hb12
      have tt := t12
      obtain ⟨-, -, ⟨⟨z0, z1, -⟩, z2, z3⟩, tb⟩ := tt
      clear q2 q3 y0 y1
      go_wp2_with fail
      refine bodyPost_ret (v := .tuple #[.agg #[.int .i64 RN, .int .i64 RD], .bool RZ]) (by simp [results, Try.results20, go_sem, z0, z1]) rfl ⟨rfl, ?_⟩
      exact (tb.setCell (by simp) _).setCell (by simp) _
    · have uT : FBox w9 W0.heap.size (.int .i64 0) (.int .i64 0) := ⟨⟨x0, x1, by simpa using x5⟩, x2, x3⟩
      have uS := fbox_set uT (.int .i64 X) (.int .i64 Y)
      have tS := T3.stored t9 (bb := W0.heap.size) (.int .i64 X) (.int .i64 Y) (by omega) (by omega) (by omega) (by omega)
      clear uT x0 x1 x2 x3 x5
      generalize W0.heap.size = bb at *
      generalize (w9.setCell ⟨bb, 0, none⟩ (.int .i64 X)).setCell ⟨bb, 1, none⟩ (.int .i64 Y) = W at *
      have tt := tS
      obtain ⟨-, ⟨⟨q2, q3, -⟩, -, -⟩, -, -⟩ := tt
      have uu := uS
      obtain ⟨⟨y0, y1, -⟩, -, -⟩ := uu
      go_wp2_with fail
      refine (HTP.out _).mono ?_; rintro e w12 ⟨rfl, hb12⟩
      have t12 := T3.keep tS hb12
      have tt := t12
      obtain ⟨-, -, ⟨⟨z0, z1, -⟩, z2, z3⟩, tb⟩ := tt
      clear q2 q3 y0 y1
      go_wp2_with fail
      refine bodyPost_ret (v := .tuple #[.agg #[.int .i64 RN, .int .i64 RD], .bool RZ]) (by simp [results, Try.results20, go_sem, z0, z1]) rfl ⟨rfl, ?_⟩
      exact (tb.setCell (by simp) _).setCell (by simp) _
end Go.Proofs.Ytmhdjimdhcephab

