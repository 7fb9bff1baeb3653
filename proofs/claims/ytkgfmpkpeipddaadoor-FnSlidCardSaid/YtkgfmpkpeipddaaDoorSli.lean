/- Sliding interleavers: the model's; the program's sliderOf, delay, delayOf, delayLeft, SlideDelay. -/
import Derived.Test.YtkgfmpkpeipddaaDoorPbi
namespace Go.Proofs.YtkgfmpkpeipddaaDoor
open Go Go.RowKit
set_option linter.unusedVariables false

theorem l08Slide_any (r c : Int) (w : World) : Calls Tryd.prog 49 #[.int .i64 r, .int .i64 c] w fun e w' => e = .returned (.bool (sdB r c)) ∧ w = w' := by
  by_cases h : 1 ≤ r ∧ r ≤ 20
  · have HV : Hid (sdB r c = decide (1 ≤ c ∧ c ≤ 20)) := by show _ = _; unfold sdB; rw [decide_eq_true h]; rfl
    have HI := Lib.hid (in8 r 1 20 w)
    rw [decide_eq_true h] at HI
    clear h
    go_enter Tryd.func49, Tryd.ntmps49
    go_wp2_with fail
    refine HI.out.mono ?_; rintro e w' ⟨rfl, rfl⟩
    go_wp2_with fail
    refine (in8 c 1 20 _).mono ?_; rintro e w' ⟨rfl, rfl⟩
    go_wp2_with fail
    go_ret
    exact ⟨ret_bool8 (by have := HV.out; rw [this]; first | done | simp), rfl⟩
  · have HV : Hid (sdB r c = false) := by show _ = _; unfold sdB; rw [decide_eq_false h]; rfl
    have HI := Lib.hid (in8 r 1 20 w)
    rw [decide_eq_false h] at HI
    clear h
    go_enter Tryd.func49, Tryd.ntmps49
    go_wp2_with fail
    refine HI.out.mono ?_; rintro e w' ⟨rfl, rfl⟩
    go_wp2_with fail
    go_ret
    exact ⟨ret_bool8 (by have := HV.out; rw [this]; first | done | simp), rfl⟩
theorem sliderOf_yes (r c : Int) (w : World) (h : sdB r c = true) :
    Calls Tryd.prog 52 #[.int .i64 r, .int .i64 c] w fun e w' => e = .returned (.tuple #[.agg #[.int .i64 r, .int .i64 c], .nilIface]) ∧ Below w.heap.size w w' := by
  obtain ⟨⟨h1, h2⟩, h3, h4⟩ := sd_is h
  clear h
  go_enter Tryd.func52, Tryd.ntmps52
  go_wp2_with fail
  refine (btw_yes _ _ _ _ h1 h2).mono ?_; rintro e w' ⟨rfl, rfl⟩
  go_wp2_with fail
  refine (btw_yes _ _ _ _ h3 h4).mono ?_; rintro e w' ⟨rfl, rfl⟩
  go_wp2_with fail
  simp [bodyPost, results, Tryd.results52, go_sem]
  exact (Below.refl _ _).alloc (Nat.le_refl _) _
theorem sliderOf_no (r c : Int) (a : Addr) (w : World) (hv : Ev 0 a w) (h : sdB r c = false) :
    Calls Tryd.prog 52 #[.int .i64 r, .int .i64 c] w fun e w' => e = .returned (.tuple #[.agg #[.int .i64 0, .int .i64 0], .iface 98 (.pointer (some a))]) ∧ Below w.heap.size w w' := by
  have hc : ∀ o, (w.alloc o).cell? ⟨0, 0, none⟩ = some (.iface 98 (.pointer (some a))) := fun o => (hv.keep ((Below.refl _ _).alloc (Nat.le_refl _) o)).cell
  by_cases h1 : 1 ≤ r ∧ r ≤ 20
  · have h2 : ¬ (1 ≤ c ∧ c ≤ 20) := fun e => by unfold sdB at h; rw [decide_eq_true h1, decide_eq_true e] at h; cases h
    have H2 := Lib.hid h2
    obtain ⟨a1, a2⟩ := h1
    clear h h2 hv
    go_enter Tryd.func52, Tryd.ntmps52
    go_wp2_with fail
    refine (btw_yes _ _ _ _ a1 a2).mono ?_; rintro e w' ⟨rfl, rfl⟩
    go_wp2_with fail
    refine (btw_no _ _ _ _ H2.out).mono ?_; rintro e w' ⟨rfl, rfl⟩
    go_wp2_with fail
    go_region
    all_goals
      go_wp2_with fail
      simp [bodyPost, results, Tryd.results52, go_sem]
      exact ((Below.refl _ _).alloc (Nat.le_refl _) _).drew
  · have H1 := Lib.hid h1
    clear h h1 hv
    go_enter Tryd.func52, Tryd.ntmps52
    go_wp2_with fail
    refine (btw_no _ _ _ _ H1.out).mono ?_; rintro e w' ⟨rfl, rfl⟩
    go_wp2_with fail
    go_region
    all_goals
      go_wp2_with fail
      simp [bodyPost, results, Tryd.results52, go_sem]
      exact ((Below.refl _ _).alloc (Nat.le_refl _) _).drew
/-- The products of a delay. -/
theorem dl_walk {i B S : Nat} (h1 : i < B) (h2 : B ≤ 20) (h3 : S ≤ 20) : ∃ X Y : Nat, IntKind.i64.wrap ((i : Int) * (S : Int)) = (X : Int) ∧ IntKind.i64.wrap ((X : Int) * (B : Int)) = (Y : Int) ∧ Y = i * S * B ∧ Y ≤ 7600 := by
  have hb := dl_bd h1 h2 h3
  have hx : i * S ≤ 400 := by have := Nat.mul_le_mul (show i ≤ 20 by omega) h3; omega
  exact ⟨i * S, i * S * B, by rw [Int.natCast_mul]; exact IntWalk.i64_in _ (by rw [← Int.natCast_mul]; omega), by rw [Int.natCast_mul (i * S) B]; exact IntWalk.i64_in _ (by rw [← Int.natCast_mul]; omega), rfl, hb⟩
theorem delayOf_any (B S j : Nat) (w : World) (h1 : 1 ≤ B) (h2 : B ≤ 20) (h3 : S ≤ 20) :
    Calls Tryd.prog 54 #[.agg #[.int .i64 B, .int .i64 S], .int .i64 j] w fun e w' => e = .returned (.int .i64 (dlN B S true j : Nat)) ∧ Below w.heap.size w w' := by
  have hd : dlN B S true j = j % B * S * B := rfl
  rw [hd]
  obtain ⟨i, hi⟩ : ∃ i, i = j % B := ⟨_, rfl⟩
  have him : (j : Int) % (B : Int) = (i : Int) := by rw [hi]; exact (Int.natCast_emod j B).symm
  have hil : i < B := by rw [hi]; exact Nat.mod_lt _ h1
  rw [← hi]
  obtain ⟨X, Y, e1, e2, e3, e4⟩ := dl_walk hil h2 h3
  rw [← e3]
  have hj0 : (0 : Int) ≤ (j : Int) := by omega
  have hB0 : ((B : Int) == 0) = false := by simpa using (show ¬ B = 0 by omega)
  have hB1 : (0 : Int) < (B : Int) := by omega
  have ei : IntKind.i64.wrap (i : Int) = (i : Int) := IntWalk.i64_in _ (by omega)
  clear hd hi hil h1 h2 h3 e3
  go_enter Tryd.func54, Tryd.ntmps54
  go_wp2_with fail
  go_region
  go_wp2_with fail
  go_ret
  exact ⟨rfl, ((Below.refl _ _).alloc (Nat.le_refl _) _).drew⟩
theorem delay_any (B S : Nat) (w : World) (h1 : 1 ≤ B) (h2 : B ≤ 20) (h3 : S ≤ 20) :
    Calls Tryd.prog 56 #[.agg #[.int .i64 B, .int .i64 S]] w fun e w' => e = .returned (.int .i64 (((B - 1) * S * B : Nat) : Int)) ∧ Below w.heap.size w w' := by
  obtain ⟨i, hi⟩ : ∃ i, i = B - 1 := ⟨_, rfl⟩
  have him : (B : Int) - 1 = (i : Int) := by omega
  have hil : i < B := by omega
  rw [← hi]
  obtain ⟨X, Y, e1, e2, e3, e4⟩ := dl_walk hil h2 h3
  rw [← e3]
  have hB1 : (0 : Int) < (B : Int) := by omega
  have hB2 : (B : Int) ≤ 20 := by omega
  have ei : IntKind.i64.wrap (i : Int) = (i : Int) := IntWalk.i64_in _ (by omega)
  clear hi hil h1 h2 h3 e3
  go_enter Tryd.func56, Tryd.ntmps56
  go_wp2_with fail
  first
    | (go_ret; exact ⟨rfl, (Below.refl _ _).alloc (Nat.le_refl _) _⟩)
    | (go_region; go_wp2_with fail; go_ret; exact ⟨rfl, ((Below.refl _ _).alloc (Nat.le_refl _) _).drew⟩)
theorem bk8 {W : World} {b : Nat} {x y : Value} (h : Bk W b [x, y]) : W.cell? ⟨b, 0, none⟩ = some x ∧ W.cell? ⟨b, 1, none⟩ = some y := ⟨h.c 0 _ rfl, h.c 1 _ rfl⟩
theorem delayLeft_any (B S j : Nat) (w : World) (h1 : 1 ≤ B) (h2 : B ≤ 20) (h3 : S ≤ 20) :
    Calls Tryd.prog 55 #[.agg #[.int .i64 B, .int .i64 S], .int .i64 j] w fun e w' => e = .returned (.int .i64 (dlN B S false j : Nat)) ∧ Below w.heap.size w w' := by
  have hil : j % B < B := Nat.mod_lt _ h1
  have hd : dlN B S false j = (B - 1) * S * B - dlN B S true j := dl_down B S (j % B) hil
  have hle : dlN B S true j ≤ (B - 1) * S * B := Nat.mul_le_mul_right _ (Nat.mul_le_mul_right _ (by show j % B ≤ B - 1; omega))
  have hbd := dl_bd (show B - 1 < B by omega) h2 h3
  have HO := Lib.hid (fun W => delayOf_any B S j W h1 h2 h3)
  have HD := Lib.hid (fun W => delay_any B S W h1 h2 h3)
  rw [hd]
  generalize dlN B S true j = X at *
  generalize (B - 1) * S * B = Y at *
  have es : (Y : Int) - (X : Int) = ((Y - X : Nat) : Int) := by omega
  have hXb : (X : Int) ≤ 7600 := by omega
  have hYb : (Y : Int) ≤ 7600 := by omega
  have hX0 : (0 : Int) ≤ (X : Int) := by omega
  have hY0 : (0 : Int) ≤ (Y : Int) := by omega
  have hs0 : (X : Int) ≤ (Y : Int) := by omega
  obtain ⟨Z, hZ⟩ : ∃ Z, Z = Y - X := ⟨_, rfl⟩
  rw [← hZ] at es ⊢
  have ez : IntKind.i64.wrap (Z : Int) = (Z : Int) := IntWalk.i64_in _ (by omega)
  clear hd hle hbd hil h1 h2 h3 hZ
  have K0 := Lib.hid (Bk.new w [.int .i64 (B : Int), .int .i64 (S : Int)] 56 _ rfl)
  have B0 := Lib.hid ((Below.refl w.heap.size w).alloc (Nat.le_refl _) (.cells #[.int .i64 (B : Int), .int .i64 (S : Int)] 56))
  go_enter Tryd.func55, Tryd.ntmps55
  go_wp2_with fail
  have t0 := K0.out.drew
  have B6 := Lib.hid B0.out.drew
  have qa := (bk8 t0).1
  have qb := (bk8 t0).2
  go_region_held3 (fun w' => w'.cell? ⟨w.heap.size, 0, none⟩ = some (.int .i64 (B : Int)) ∧ w'.cell? ⟨w.heap.size, 1, none⟩ = some (.int .i64 (S : Int))) ((first | with_reducible exact bk8 t8 | with_reducible exact bk8 t7 | with_reducible exact bk8 t0 | fail))
    (first
      | (go_at_call 56; refine (HD.out _).mono ?_; rintro e u7 ⟨rfl, hb7⟩; have t7 := t0.keep hb7; have B7 := Lib.hid (B6.out.trans (hb7.mono B6.out.size)); have qa := (bk8 t7).1; have qb := (bk8 t7).2; clear hb7)
      | (go_at_call 54; refine (HO.out _).mono ?_; rintro e u8 ⟨rfl, hb8⟩; have t8 := t7.keep hb8; have B8 := Lib.hid (B7.out.trans (hb8.mono B7.out.size)); clear hb8)
      | fail)
  all_goals
    go_wp2_with fail
    go_ret
    exact ⟨ret_int (by omega), B8.out⟩
end Go.Proofs.YtkgfmpkpeipddaaDoor
