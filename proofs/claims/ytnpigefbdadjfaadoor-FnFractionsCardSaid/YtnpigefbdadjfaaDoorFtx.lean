/- Contracts of both FractionText; the walk of their law. -/
import Derived.Test.YtnpigefbdadjfaaDoorFrc
import Derived.Test.YtnpigefbdadjfaaDoorWDec2
import Derived.Deep.RegionHeld3
import Derived.Laws.Concat
namespace Go.Proofs.YtnpigefbdadjfaaDoor
open Go Go.RowKit
set_option linter.unusedVariables false

/-- The text of a valid fraction. -/
def fT (n d : Int) : ByteArray := if d = 1 then ⟨(Lib.itoa n).toArray⟩ else ⟨(Lib.itoa n).toArray⟩ ++ ⟨#[47]⟩ ++ ⟨(Lib.itoa d).toArray⟩
def fTV (n d : Int) : ByteArray := if fIs n d then fT n d else ⟨#[]⟩
theorem fIs_bdX {n d : Int} (h : fIs n d = true) : 1 ≤ d ∧ d ≤ 1000000000000000000 ∧ -1000000000000000000 ≤ n ∧ n ≤ 1000000000000000000 := by
  have := of_decide_eq_true h
  exact ⟨this.1, this.2.1, this.2.2.1, this.2.2.2.1⟩
theorem itoa_size (n : Int) (h0 : -9223372036854775808 ≤ n) (h1 : n ≤ 9223372036854775807) : (⟨(Lib.itoa n).toArray⟩ : ByteArray).size ≤ 21 := by
  have := Lib.itoa_length_le n h0 h1
  show (Lib.itoa n).toArray.size ≤ 21
  simpa using this
theorem box_drew {W : World} {b : Nat} {x y : Value} (h : Box W b x y) : Box W.drew b x y := h
theorem box_all {W : World} {b : Nat} {x y : Value} (h : Box W b x y) : W.cell? ⟨b, 0, none⟩ = some x ∧ W.cell? ⟨b, 1, none⟩ = some y := ⟨h.1, h.2.1⟩

set_option maxRecDepth 100000 in
theorem fractionText_impl (n d : Int) (w : World) (wn1 : -9223372036854775808 ≤ n) (wn2 : n ≤ 9223372036854775807) (htab : Lib.TabIs Tryd.prog w "internal/strconv.uint64pow10" .u64 Lib.pow10Tab) :
    Calls Tryd.prog 26 #[.agg #[.int .i64 n, .int .i64 d]] w fun e w' => e = .returned (.tuple #[.string (fTV n d), .bool (fIs n d)]) ∧ Below w.heap.size w w' := by
  have BX := Lib.hid (box_new w (.int .i64 n) (.int .i64 d) 36)
  have BB : Hid (Below w.heap.size w (w.alloc (.cells #[.int .i64 n, .int .i64 d] 36))) := (Below.refl _ _).alloc (Nat.le_refl _) _
  have HF := Lib.hid (fun W => validFraction_impl n d W wn1 wn2)
  have HT := Lib.hid (Lib.tabBelow_of_tabIs htab)
  clear htab
  cases hf : fIs n d
  · have e : fTV n d = ⟨#[]⟩ := by unfold fTV; rw [hf]; rfl
    rw [e]
    rw [hf] at HF
    clear hf e
    go_enter Tryd.func26, Tryd.ntmps26
    go_wp2_with fail
    refine (HF.out _).mono ?_; rintro e w1 ⟨rfl, hb1⟩
    have B1 := Lib.hid (BB.out.trans (hb1.mono BB.out.size))
    clear hb1
    go_wp2_with fail
    go_ret2
    exact ⟨rfl, B1.out⟩
  · obtain ⟨d0, d1, n0, n1⟩ := fIs_bdX hf
    have HN := Lib.hid (fun W h => decimal_impl n (by omega) (by omega) W h)
    have HD := Lib.hid (fun W h => decimal_impl d (by omega) (by omega) W h)
    have hn := itoa_size n (by omega) (by omega)
    have hd := itoa_size d (by omega) (by omega)
    have e : fTV n d = fT n d := by unfold fTV; rw [hf]; rfl
    rw [e]
    rw [hf] at HF
    clear hf e d0 d1 n0 n1 wn1 wn2
    unfold fT
    generalize (⟨(Lib.itoa n).toArray⟩ : ByteArray) = A at *
    generalize (⟨(Lib.itoa d).toArray⟩ : ByteArray) = B at *
    by_cases h : d = 1
    · rw [if_pos h]
      have hz : (d == 1) = true := by simpa using h
      clear h
      go_enter Tryd.func26, Tryd.ntmps26
      go_wp2_with fail
      refine (HF.out _).mono ?_; rintro e w1 ⟨rfl, hb1⟩
      have B1 := Lib.hid (BB.out.trans (hb1.mono BB.out.size))
      have X1 := Lib.hid (box_keep BX.out hb1)
      obtain ⟨q0, q1, -⟩ := X1.out
      clear hb1
      go_wp2_with fail
      refine (HN.out _ (HT.out _ B1.out)).mono ?_; rintro e w2 ⟨rfl, hb2⟩
      have B2 := Lib.hid (B1.out.trans (hb2.mono B1.out.size))
      clear hb2
      go_wp2_with fail
      go_ret2
      exact ⟨rfl, B2.out⟩
    · rw [if_neg h]
      have r1 : ∀ W : World, (Op.stringOp .add A ⟨#[47]⟩).run Tryd.prog W = .ok (.string (A ++ ⟨#[47]⟩)) W := fun W => run_string_add_sum W A ⟨#[47]⟩ (by show A.size + 1 ≤ _; omega)
      have r2 : ∀ W : World, (Op.stringOp .add (A ++ ⟨#[47]⟩) B).run Tryd.prog W = .ok (.string (A ++ ⟨#[47]⟩ ++ B)) W := fun W => run_string_add_sum W _ B (by rw [ByteArray.size_append]; show A.size + 1 + B.size ≤ _; omega)
      generalize A ++ ⟨#[47]⟩ = C at *
      generalize C ++ B = D at *
      have hz : (d == 1) = false := by simpa using h
      clear h
      go_enter Tryd.func26, Tryd.ntmps26
      go_wp2_with fail
      refine (HF.out _).mono ?_; rintro e w1 ⟨rfl, hb1⟩
      have B1 := Lib.hid (BB.out.trans (hb1.mono BB.out.size))
      have X1 := Lib.hid (box_keep BX.out hb1)
      obtain ⟨q0, q1, -⟩ := X1.out
      clear hb1
      go_wp2_with fail
      have t0 := box_drew X1.out
      have B6 := Lib.hid (B1.out.drew)
      have qa := t0.1
      have qb := t0.2.1
      go_region_held3 (fun w' => w'.cell? ⟨w.heap.size, 0, none⟩ = some (.int .i64 n) ∧ w'.cell? ⟨w.heap.size, 1, none⟩ = some (.int .i64 d)) ((first | with_reducible exact box_all t8 | with_reducible exact box_all t7 | with_reducible exact box_all t0 | fail))
        (first
          | (go_at_call 79; refine (HN.out _ (HT.out _ B6.out)).mono ?_; rintro e u7 ⟨rfl, hb7⟩; have t7 := box_keep t0 hb7; have B7 := Lib.hid (B6.out.trans (hb7.mono B6.out.size)); have qa := t7.1; have qb := t7.2.1; clear hb7)
          | (go_at_call 79; refine (HD.out _ (HT.out _ B7.out)).mono ?_; rintro e u8 ⟨rfl, hb8⟩; have t8 := box_keep t7 hb8; have B8 := Lib.hid (B7.out.trans (hb8.mono B7.out.size)); have qa := t8.1; have qb := t8.2.1; clear hb8)
          | fail)
      all_goals go_wp2_with fail
      all_goals go_ret2
      all_goals exact ⟨rfl, B8.out⟩
end Go.Proofs.YtnpigefbdadjfaaDoor
