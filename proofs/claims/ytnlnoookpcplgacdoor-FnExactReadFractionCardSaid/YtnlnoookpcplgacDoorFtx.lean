/- Contracts of both FractionText; the walk of their law. -/
import Derived.Test.YtnlnoookpcplgacDoorFrc
import Derived.Test.YtnlnoookpcplgacDoorWDec2
import Derived.Deep.RegionHeld3
import Derived.Laws.Concat
namespace Go.Proofs.YtnlnoookpcplgacDoor
open Go Go.RowKit
set_option linter.unusedVariables false

/-- The text of a valid fraction. -/
def fT (n d : Int) : ByteArray := if d = 1 then ⟨(Lib.itoa n).toArray⟩ else ⟨(Lib.itoa n).toArray⟩ ++ ⟨#[47]⟩ ++ ⟨(Lib.itoa d).toArray⟩
def fTV (n d : Int) : ByteArray := if fIs n d then fT n d else ⟨#[]⟩
theorem fIs_bd {n d : Int} (h : fIs n d = true) : 1 ≤ d ∧ d ≤ 1000000000000000000 ∧ -1000000000000000000 ≤ n ∧ n ≤ 1000000000000000000 := by
  have := of_decide_eq_true h
  exact ⟨this.1, this.2.1, this.2.2.1, this.2.2.2.1⟩
theorem itoa_size (n : Int) (h0 : -9223372036854775808 ≤ n) (h1 : n ≤ 9223372036854775807) : (⟨(Lib.itoa n).toArray⟩ : ByteArray).size ≤ 21 := by
  have := Lib.itoa_length_le n h0 h1
  show (Lib.itoa n).toArray.size ≤ 21
  simpa using this
theorem box_drew {W : World} {b : Nat} {x y : Value} (h : Box W b x y) : Box W.drew b x y := h
theorem box_all {W : World} {b : Nat} {x y : Value} (h : Box W b x y) : W.cell? ⟨b, 0, none⟩ = some x ∧ W.cell? ⟨b, 1, none⟩ = some y := ⟨h.1, h.2.1⟩

set_option maxRecDepth 100000 in
theorem l01FText_any (n d : Int) (w : World) (n0 : -9223372036854775808 ≤ n) (n1 : n ≤ 9223372036854775807) (d0 : -9223372036854775808 ≤ d) (d1 : d ≤ 9223372036854775807) :
    Calls Tryd.prog 31 #[.agg #[.int .i64 n, .int .i64 d]] w fun e w' => e = .returned (.string (fT n d)) ∧ Below w.heap.size w w' := by
  have HN := Lib.hid (fun W => dec_any n n0 n1 W)
  have HD := Lib.hid (fun W => dec_any d d0 d1 W)
  have HG : Hid (∀ (W : World) (m : Int) (X : ByteArray), (m = n ∧ X = ⟨(Lib.itoa n).toArray⟩) ∨ (m = d ∧ X = ⟨(Lib.itoa d).toArray⟩) → Calls Tryd.prog 38 #[.int .i64 m] W fun e w' => e = .returned (.string X) ∧ Below W.heap.size W w') := by
    show ∀ _, _
    rintro W m X (⟨rfl, rfl⟩ | ⟨rfl, rfl⟩)
    · exact dec_any _ n0 n1 W
    · exact dec_any _ d0 d1 W
  have hn := itoa_size n n0 n1
  have hd := itoa_size d d0 d1
  have BX := Lib.hid (box_new w (.int .i64 n) (.int .i64 d) 23)
  have BB : Hid (Below w.heap.size w (w.alloc (.cells #[.int .i64 n, .int .i64 d] 23))) := (Below.refl _ _).alloc (Nat.le_refl _) _
  unfold fT
  generalize (⟨(Lib.itoa n).toArray⟩ : ByteArray) = A at *
  generalize (⟨(Lib.itoa d).toArray⟩ : ByteArray) = B at *
  by_cases h : d = 1
  · rw [if_pos h]
    have hz : (d == 1) = true := by simpa using h
    clear h
    go_enter Tryd.func31, Tryd.ntmps31
    go_wp2_with fail
    refine (HN.out _).mono ?_; rintro e w1 ⟨rfl, hb1⟩
    have B1 := Lib.hid (BB.out.trans (hb1.mono BB.out.size))
    clear hb1
    go_wp2_with fail
    go_ret
    exact ⟨rfl, B1.out⟩
  · rw [if_neg h]
    have r1 : ∀ W : World, (Op.stringOp .add A ⟨#[47]⟩).run Tryd.prog W = .ok (.string (A ++ ⟨#[47]⟩)) W := fun W => run_string_add_sum W A ⟨#[47]⟩ (by show A.size + 1 ≤ _; omega)
    have r2 : ∀ W : World, (Op.stringOp .add (A ++ ⟨#[47]⟩) B).run Tryd.prog W = .ok (.string (A ++ ⟨#[47]⟩ ++ B)) W := fun W => run_string_add_sum W _ B (by rw [ByteArray.size_append]; show A.size + 1 + B.size ≤ _; omega)
    generalize A ++ ⟨#[47]⟩ = C at *
    generalize C ++ B = D at *
    have hz : (d == 1) = false := by simpa using h
    clear h
    go_enter Tryd.func31, Tryd.ntmps31
    go_wp2_with fail
    have t0 := box_drew BX.out
    have B6 := Lib.hid (BB.out.drew)
    have qa := t0.1
    have qb := t0.2.1
    go_region_held3 (fun w' => w'.cell? ⟨w.heap.size, 0, none⟩ = some (.int .i64 n) ∧ w'.cell? ⟨w.heap.size, 1, none⟩ = some (.int .i64 d)) ((first | with_reducible exact box_all t8 | with_reducible exact box_all t7 | with_reducible exact box_all t0 | fail))
      (first
        | (go_at_call 38; refine (HG.out _ _ A (by first | exact Or.inl ⟨rfl, rfl⟩)).mono ?_; rintro e u7 ⟨rfl, hb7⟩; have t7 := box_keep t0 hb7; have B7 := Lib.hid (B6.out.trans (hb7.mono B6.out.size)); have qa := t7.1; have qb := t7.2.1; clear hb7)
        | (go_at_call 38; refine (HG.out _ _ B (by first | exact Or.inr ⟨rfl, rfl⟩)).mono ?_; rintro e u8 ⟨rfl, hb8⟩; have t8 := box_keep t7 hb8; have B8 := Lib.hid (B7.out.trans (hb8.mono B7.out.size)); have qa := t8.1; have qb := t8.2.1; clear hb8)
        | fail)
    all_goals go_wp2_with fail
    all_goals go_ret
    all_goals exact ⟨rfl, B8.out⟩

end Go.Proofs.YtnlnoookpcplgacDoor
