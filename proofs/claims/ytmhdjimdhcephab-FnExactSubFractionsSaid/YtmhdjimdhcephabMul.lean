/- The model's product of fractions. -/
import Derived.Test.YtmhdjimdhcephabMulA
import Derived.Deep.RegionHeld3
namespace Go.Proofs.Ytmhdjimdhcephab
open Go Go.RowKit
set_option linter.unusedVariables false

theorem mk_bd (n d : Int) (h0 : d ≠ 0) (n1 : -1000000000000000000 ≤ n) (n2 : n ≤ 1000000000000000000) (d1 : -1000000000000000000 ≤ d) (d2 : d ≤ 1000000000000000000) :
    (-1000000000000000000 ≤ mkN n d ∧ mkN n d ≤ 1000000000000000000) ∧ 1 ≤ mkD n d ∧ mkD n d ≤ 1000000000000000000 := by
  refine ⟨?_, ?_⟩
  · unfold mkN; exact tdiv_bd _ _ (by split <;> omega) (by split <;> omega)
  · have hd := tdiv_bd (d.natAbs : Int) (Nat.gcd n.natAbs d.natAbs) (by omega) (by omega)
    refine ⟨?_, hd.2⟩
    unfold mkD
    have hg : 0 < Nat.gcd n.natAbs d.natAbs := Nat.gcd_pos_of_pos_right _ (by omega)
    have hle : Nat.gcd n.natAbs d.natAbs ≤ d.natAbs := Nat.gcd_le_right _ (by omega)
    rw [Int.tdiv_eq_ediv_of_nonneg (by omega)]
    have : 1 ≤ d.natAbs / Nat.gcd n.natAbs d.natAbs := Nat.div_pos hle hg
    omega

theorem mul_parts (A C : Int) : A * C = if decide (A < 0) ≠ decide (C < 0) then -((A.natAbs : Int) * C.natAbs) else (A.natAbs : Int) * C.natAbs := by
  by_cases ha : A < 0
  all_goals by_cases hc : C < 0
  · rw [if_neg (by simp [ha, hc]), show (A.natAbs : Int) = -A from by omega, show (C.natAbs : Int) = -C from by omega, Int.neg_mul_neg]
  · rw [if_pos (by simp [ha, hc]), show (A.natAbs : Int) = -A from by omega, show (C.natAbs : Int) = C from by omega, Int.neg_mul, Int.neg_neg]
  · rw [if_pos (by simp [ha, hc]), show (A.natAbs : Int) = A from by omega, show (C.natAbs : Int) = -C from by omega, Int.mul_neg, Int.neg_neg]
  · rw [if_neg (by simp [ha, hc]), show (A.natAbs : Int) = A from by omega, show (C.natAbs : Int) = C from by omega]
theorem small_part {A C : Int} : smB (A.natAbs * C.natAbs) = ptB (A * C) := by
  have hp : 0 ≤ (A.natAbs : Int) * C.natAbs := Int.mul_nonneg (by omega) (by omega)
  have h := mul_parts A C
  unfold smB ptB
  refine decide_eq_decide.2 ?_
  generalize (A.natAbs : Int) * C.natAbs = P at *
  generalize A * C = Z at *
  split at h <;> omega
theorem small_pos {Z : Int} (h : 0 ≤ Z) : smB Z = ptB Z := by
  unfold smB ptB; exact decide_eq_decide.2 (by omega)

set_option maxHeartbeats 1600000 in
set_option maxRecDepth 100000 in
theorem l01FMul_any (fn fd gn gd : Int) (w : World) (f1 : -1000000000000000000 ≤ fn) (f2 : fn ≤ 1000000000000000000) (f3 : 1 ≤ fd) (f4 : fd ≤ 1000000000000000000) (g1 : -1000000000000000000 ≤ gn) (g2 : gn ≤ 1000000000000000000) (g3 : 1 ≤ gd) (g4 : gd ≤ 1000000000000000000) :
    Calls Try.prog 142 #[.agg #[.int .i64 fn, .int .i64 fd], .agg #[.int .i64 gn, .int .i64 gd]] w fun e w' => e = .returned (.tuple #[.agg #[.int .i64 (foN (mkN fn gd * mkN gn fd) (mkD fn gd * mkD gn fd)), .int .i64 (foD (mkN fn gd * mkN gn fd) (mkD fn gd * mkD gn fd))], .bool (ptB (mkN fn gd * mkN gn fd) && ptB (mkD fn gd * mkD gn fd))]) ∧ Below w.heap.size w w' := by
  obtain ⟨⟨a1, a2⟩, b1, b2⟩ := mk_bd fn gd (by omega) f1 f2 (by omega) (by omega)
  obtain ⟨⟨c1, c2⟩, d1, d2⟩ := mk_bd gn fd (by omega) g1 g2 (by omega) (by omega)
  have HM1 := Lib.hid (fun W => l01FMake_any fn gd W (by omega) f1 f2 (by omega) (by omega))
  have HM2 := Lib.hid (fun W => l01FMake_any gn fd W (by omega) g1 g2 (by omega) (by omega))
  generalize mkN fn gd = A at *
  generalize mkD fn gd = B at *
  generalize mkN gn fd = C at *
  generalize mkD gn fd = D at *
  obtain ⟨p1, p2⟩ := mul_bd (A.natAbs : Int) (C.natAbs : Int) 1000000000000000000 1000000000000000000 (by omega) (by omega) (by omega) (by omega)
  have p2 : (A.natAbs : Int) * (C.natAbs : Int) ≤ 100000000000000000000000000000000000000 := by omega
  obtain ⟨r1, r2⟩ := mul_bd B D 1000000000000000000 1000000000000000000 (by omega) (by omega) (by omega) (by omega)
  have r2 : B * D ≤ 100000000000000000000000000000000000000 := by omega
  have na : IntKind.i64.wrap (-A) = -A := IntWalk.i64_in _ (by omega)
  have nc : IntKind.i64.wrap (-C) = -C := IntWalk.i64_in _ (by omega)
  have F0 := Lib.hid (fbox_alloc (fbox_alloc (fbox_new w (.int .i64 fn) (.int .i64 fd) 24) (.cells #[.int .i64 gn, .int .i64 gd] 24)) (.cells #[.int .i64 0, .int .i64 0] 24))
  have G0 := Lib.hid (fbox_alloc (fbox_new (w.alloc (.cells #[.int .i64 fn, .int .i64 fd] 24)) (.int .i64 gn) (.int .i64 gd) 24) (.cells #[.int .i64 0, .int .i64 0] 24))
  have R0 := Lib.hid (fbox_new ((w.alloc (.cells #[.int .i64 fn, .int .i64 fd] 24)).alloc (.cells #[.int .i64 gn, .int .i64 gd] 24)) (.int .i64 0) (.int .i64 0) 24)
  have B0 := Lib.hid (balloc (balloc (balloc (Below.refl w.heap.size w) (.cells #[.int .i64 fn, .int .i64 fd] 24)) (.cells #[.int .i64 gn, .int .i64 gd] 24)) (.cells #[.int .i64 0, .int .i64 0] 24))
  obtain ⟨RN, hrn⟩ : ∃ RN, RN = foN (A * C) (B * D) := ⟨_, rfl⟩
  obtain ⟨RD, hrd⟩ : ∃ RD, RD = foD (A * C) (B * D) := ⟨_, rfl⟩
  obtain ⟨RB, hrb⟩ : ∃ RB, RB = (ptB (A * C) && ptB (B * D)) := ⟨_, rfl⟩
  rw [← hrn, ← hrd, ← hrb]
  have HRN := Lib.hid hrn
  have HRD := Lib.hid hrd
  have HRB := Lib.hid hrb
  clear hrn hrd hrb
  go_enter Try.func142, Try.ntmps142
  go_wp2_with fail
  refine (HM1.out _).mono ?_; rintro e w1 ⟨rfl, hb1⟩
  have F1 := Lib.hid (fbox_alloc (fbox_keep F0.out hb1) (.cells #[.int .i64 A, .int .i64 B] 24))
  have G1 := Lib.hid (fbox_alloc (fbox_keep G0.out hb1) (.cells #[.int .i64 A, .int .i64 B] 24))
  have R1 := Lib.hid (fbox_alloc (fbox_keep R0.out hb1) (.cells #[.int .i64 A, .int .i64 B] 24))
  have A1 := Lib.hid (fbox_new w1 (.int .i64 A) (.int .i64 B) 24)
  have B1 := Lib.hid (balloc (bnext B0.out hb1) (.cells #[.int .i64 A, .int .i64 B] 24))
  clear hb1
  obtain ⟨⟨-, q0, -⟩, -, -⟩ := F1.out
  obtain ⟨⟨q1, -, -⟩, -, -⟩ := G1.out
  simp at q0 q1
  go_wp2_with fail
  refine (HM2.out _).mono ?_; rintro e w2 ⟨rfl, hb2⟩
  have R2 := Lib.hid (fbox_alloc (fbox_keep R1.out hb2) (.cells #[.int .i64 C, .int .i64 D] 24))
  have A2 := Lib.hid (fbox_alloc (fbox_keep A1.out hb2) (.cells #[.int .i64 C, .int .i64 D] 24))
  have C2 := Lib.hid (fbox_new w2 (.int .i64 C) (.int .i64 D) 24)
  have B2 := Lib.hid (balloc (bnext B1.out hb2) (.cells #[.int .i64 C, .int .i64 D] 24))
  clear hb2 q0 q1
  obtain ⟨⟨q0, q1, l1⟩, -, -⟩ := A2.out
  obtain ⟨⟨q2, q3, l2⟩, -, -⟩ := C2.out
  go_wp2_with fail
  go_region_held3 (fun w' => w'.cell? ⟨w1.heap.size, 0, none⟩ = some (.int .i64 A) ∧ w'.cell? ⟨w2.heap.size, 0, none⟩ = some (.int .i64 C)) (simp [*])
    (first
      | (go_at_call_of 120 (Value.int .i64 A); refine (l00Max_abs A _).mono ?_; rintro e w' ⟨rfl, rfl⟩)
      | (go_at_call_of 120 (Value.int .i64 C); refine (l00Max_abs C _).mono ?_; rintro e w' ⟨rfl, rfl⟩)
      | (go_at_call 121; refine (l01Times_any _ _ _ (by omega) (by omega) (by omega) (by omega)).mono ?_; rintro e w8 ⟨rfl, hb8⟩; have z0 := (hb8.cell (p := ⟨w1.heap.size, 0, none⟩) l1).trans q0; have z1 := (hb8.cell (p := ⟨w2.heap.size, 0, none⟩) l2).trans q2)
      | (go_at_call 126; refine (l01Small_any _ _ p1 p2).mono ?_; rintro e w9 ⟨rfl, hb9⟩; have z2 := (hb9.cell (p := ⟨w1.heap.size, 0, none⟩) (Nat.lt_of_lt_of_le l1 hb8.size)).trans z0; have z3 := (hb9.cell (p := ⟨w2.heap.size, 0, none⟩) (Nat.lt_of_lt_of_le l2 hb8.size)).trans z1))
  have R3 := Lib.hid (fbox_keep (fbox_keep (fbox_keep R2.out (Below.refl _ _).drew) hb8) hb9)
  have A3 := Lib.hid (fbox_keep (fbox_keep (fbox_keep A2.out (Below.refl _ _).drew) hb8) hb9)
  have C3 := Lib.hid (fbox_keep (fbox_keep (fbox_keep C2.out (Below.refl _ _).drew) hb8) hb9)
  have B3 := Lib.hid (bnext (bnext B2.out.drew hb8) hb9)
  clear hb8 hb9 z0 z1 z2 z3 q0 q1 q2 q3 l1 l2
  obtain ⟨⟨-, q1, l1⟩, -, -⟩ := A3.out
  obtain ⟨⟨-, q3, l2⟩, -, -⟩ := C3.out
  go_wp2_with fail
  refine (l01Times_any B D _ (by omega) (by omega) (by omega) (by omega)).mono ?_; rintro e w4 ⟨rfl, hb4⟩
  go_wp2_with fail
  refine (l01Small_any (B * D) _ r1 r2).mono ?_; rintro e w5 ⟨rfl, hb5⟩
  have R5 := Lib.hid (fbox_keep (fbox_keep R3.out hb4) hb5)
  have A5 := Lib.hid (fbox_keep (fbox_keep A3.out hb4) hb5)
  have C5 := Lib.hid (fbox_keep (fbox_keep C3.out hb4) hb5)
  have B5 := Lib.hid (bnext (bnext B3.out hb4) hb5)
  clear hb4 hb5 q1 q3 l1 l2
  obtain ⟨⟨q0, q1, -⟩, q2, q3⟩ := R5.out
  obtain ⟨⟨q4, -, -⟩, -, -⟩ := A5.out
  obtain ⟨⟨q5, -, -⟩, -, -⟩ := C5.out
  simp at q0 q1 q2 q3
  have HQ := Lib.hid (mul_parts A C)
  have HS := Lib.hid (small_part (A := A) (C := C))
  have HT := Lib.hid (small_pos (Z := B * D) (by omega))
  cases hs1 : smB (A.natAbs * C.natAbs)
  · have e0 : ptB (A * C) = false := by rw [← HS.out, hs1]
    have e1 : foN (A * C) (B * D) = 0 := if_neg (by rw [e0]; simp)
    have e2 : foD (A * C) (B * D) = 0 := if_neg (by rw [e0]; simp)
    have rn : RN = 0 := HRN.out.trans e1
    have rd : RD = 0 := HRD.out.trans e2
    have rb : RB = false := by rw [HRB.out, e0, Bool.false_and]
    clear e0 e1 e2 hs1
    go_wp2_with fail
    refine bodyPost_ret (v := .tuple #[.agg #[.int .i64 0, .int .i64 0], .bool false]) (by simp [results, Try.results142, go_sem, q0, q1]) rfl ⟨by rw [rn, rd, rb], ?_⟩
    exact (B5.out.setCell (by simp; omega) _).setCell (by simp; omega) _
  · have e0 : ptB (A * C) = true := by rw [← HS.out, hs1]
    have ev : smV (A.natAbs * C.natAbs) = A.natAbs * C.natAbs := if_pos (of_decide_eq_true hs1)
    rw [ev]
    cases hs2 : smB (B * D)
    · have e3 : ptB (B * D) = false := by rw [← HT.out, hs2]
      have e1 : foN (A * C) (B * D) = 0 := if_neg (by rw [e3]; simp)
      have e2 : foD (A * C) (B * D) = 0 := if_neg (by rw [e3]; simp)
      have rn : RN = 0 := HRN.out.trans e1
      have rd : RD = 0 := HRD.out.trans e2
      have rb : RB = false := by rw [HRB.out, e0, e3]; rfl
      clear e0 e1 e2 e3 ev hs1 hs2
      go_wp2_with fail
      refine bodyPost_ret (v := .tuple #[.agg #[.int .i64 0, .int .i64 0], .bool false]) (by simp [results, Try.results142, go_sem, q0, q1]) rfl ⟨by rw [rn, rd, rb], ?_⟩
      exact (B5.out.setCell (by simp; omega) _).setCell (by simp; omega) _
    · have e3 : ptB (B * D) = true := by rw [← HT.out, hs2]
      have e1 : foN (A * C) (B * D) = A * C := if_pos ⟨e0, e3⟩
      have e2 : foD (A * C) (B * D) = B * D := if_pos ⟨e0, e3⟩
      have ev2 : smV (B * D) = B * D := if_pos (of_decide_eq_true hs2)
      have rn : RN = A * C := HRN.out.trans e1
      have rd : RD = B * D := HRD.out.trans e2
      have rb : RB = true := by rw [HRB.out, e0, e3]; rfl
      rw [ev2]
      have h1 : (A.natAbs : Int) * C.natAbs ≤ 1000000000000000000 := of_decide_eq_true hs1
      clear e0 e1 e2 e3 ev ev2 hs1 hs2
      have nz : IntKind.i64.wrap (-((A.natAbs : Int) * C.natAbs)) = -((A.natAbs : Int) * C.natAbs) := IntWalk.i64_in _ (by omega)
      rw [HQ.out] at rn
      generalize (A.natAbs : Int) * C.natAbs = P at *
      generalize B * D = Q at *
      by_cases ha : A < 0
      all_goals by_cases hc : C < 0
      · have ea : decide (A < 0) = true := decide_eq_true ha
        have ec : decide (C < 0) = true := decide_eq_true hc
        rw [if_neg (by rw [ea, ec]; simp)] at rn
        go_wp2_with fail
        refine bodyPost_ret (v := .tuple #[.agg #[.int .i64 P, .int .i64 Q], .bool true]) (by simp [results, Try.results142, go_sem, q0, q1]) rfl ⟨by rw [rn, rd, rb], ?_⟩
        exact (B5.out.setCell (by simp; omega) _).setCell (by simp; omega) _
      · have ea : decide (A < 0) = true := decide_eq_true ha
        have ec : decide (C < 0) = false := decide_eq_false hc
        rw [if_pos (by rw [ea, ec]; simp)] at rn
        go_wp2_with fail
        refine bodyPost_ret (v := .tuple #[.agg #[.int .i64 (-P), .int .i64 Q], .bool true]) (by simp [results, Try.results142, go_sem, q0, q1]) rfl ⟨by rw [rn, rd, rb], ?_⟩
        exact (B5.out.setCell (by simp; omega) _).setCell (by simp; omega) _
      · have ea : decide (A < 0) = false := decide_eq_false ha
        have ec : decide (C < 0) = true := decide_eq_true hc
        rw [if_pos (by rw [ea, ec]; simp)] at rn
        go_wp2_with fail
        refine bodyPost_ret (v := .tuple #[.agg #[.int .i64 (-P), .int .i64 Q], .bool true]) (by simp [results, Try.results142, go_sem, q0, q1]) rfl ⟨by rw [rn, rd, rb], ?_⟩
        exact (B5.out.setCell (by simp; omega) _).setCell (by simp; omega) _
      · have ea : decide (A < 0) = false := decide_eq_false ha
        have ec : decide (C < 0) = false := decide_eq_false hc
        rw [if_neg (by rw [ea, ec]; simp)] at rn
        go_wp2_with fail
        refine bodyPost_ret (v := .tuple #[.agg #[.int .i64 P, .int .i64 Q], .bool true]) (by simp [results, Try.results142, go_sem, q0, q1]) rfl ⟨by rw [rn, rd, rb], ?_⟩
        exact (B5.out.setCell (by simp; omega) _).setCell (by simp; omega) _
end Go.Proofs.Ytmhdjimdhcephab
