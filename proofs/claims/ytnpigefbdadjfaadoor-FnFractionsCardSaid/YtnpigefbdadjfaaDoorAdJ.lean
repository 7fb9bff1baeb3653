/- The program's AddFractions, whole. -/
import Derived.Test.YtnpigefbdadjfaaDoorAdI
namespace Go.Proofs.YtnpigefbdadjfaaDoor
open Go Go.RowKit
set_option linter.unusedVariables false

/-- What AddFractions answers. -/
def agN (fn gn fd gd : Int) : Int := if fIs fn fd = true ∧ fIs gn gd = true then foN (adN fn gn fd.toNat gd.toNat) (adM fn gn fd.toNat gd.toNat) else 0
def agD (fn gn fd gd : Int) : Int := if fIs fn fd = true ∧ fIs gn gd = true then foD (adN fn gn fd.toNat gd.toNat) (adM fn gn fd.toNat gd.toNat) else 0
def agB (fn gn fd gd : Int) : Bool := if fIs fn fd = true ∧ fIs gn gd = true then (ptB (adN fn gn fd.toNat gd.toNat) && ptB (adM fn gn fd.toNat gd.toNat)) else false
set_option maxRecDepth 100000 in
theorem add_impl (fn fd gn gd : Int) (w : World) (wf1 : -9223372036854775808 ≤ fn) (wf2 : fn ≤ 9223372036854775807) (wg1 : -9223372036854775808 ≤ gn) (wg2 : gn ≤ 9223372036854775807) :
    Calls Tryd.prog 22 #[.agg #[.int .i64 fn, .int .i64 fd], .agg #[.int .i64 gn, .int .i64 gd]] w fun e w' => e = .returned (.tuple #[.agg #[.int .i64 (agN fn gn fd gd), .int .i64 (agD fn gn fd gd)], .bool (agB fn gn fd gd)]) ∧ Below w.heap.size w w' := by
  have F0 := Lib.hid (fbox_alloc (fbox_alloc (fbox_new w (.int .i64 fn) (.int .i64 fd) 36) (.cells #[.int .i64 gn, .int .i64 gd] 36)) (.cells #[.int .i64 0, .int .i64 0] 36))
  have G0 := Lib.hid (fbox_alloc (fbox_new (w.alloc (.cells #[.int .i64 fn, .int .i64 fd] 36)) (.int .i64 gn) (.int .i64 gd) 36) (.cells #[.int .i64 0, .int .i64 0] 36))
  have R0 := Lib.hid (fbox_new ((w.alloc (.cells #[.int .i64 fn, .int .i64 fd] 36)).alloc (.cells #[.int .i64 gn, .int .i64 gd] 36)) (.int .i64 0) (.int .i64 0) 36)
  have B0 := Lib.hid (balloc (balloc (balloc (Below.refl w.heap.size w) (.cells #[.int .i64 fn, .int .i64 fd] 36)) (.cells #[.int .i64 gn, .int .i64 gd] 36)) (.cells #[.int .i64 0, .int .i64 0] 36))
  cases hf : fIs fn fd
  · have HF := Lib.hid hf
    have e1 : agN fn gn fd gd = 0 := if_neg (fun h => by rw [h.1] at hf; cases hf)
    have e2 : agD fn gn fd gd = 0 := if_neg (fun h => by rw [h.1] at hf; cases hf)
    have e3 : agB fn gn fd gd = false := if_neg (fun h => by rw [h.1] at hf; cases hf)
    rw [e1, e2, e3]
    clear e1 e2 e3 hf
    go_enter Tryd.func22, Tryd.ntmps22
    go_wp2_with fail
    refine (validFraction_impl _ _ _ wf1 wf2).mono ?_; rintro e w1 ⟨rfl, hb1⟩
    rw [HF.out]
    have R1 := Lib.hid (fbox_keep R0.out hb1)
    have B1 := Lib.hid (bnext B0.out hb1)
    clear hb1
    obtain ⟨⟨q0, q1, -⟩, q2, q3⟩ := R1.out
    simp at q0 q1 q2 q3
    go_wp2_with fail
    refine bodyPost_ret (v := .tuple #[.agg #[.int .i64 0, .int .i64 0], .bool false]) (by simp [results, Tryd.results22, go_sem, q0, q1]) rfl ⟨rfl, ?_⟩
    exact (B1.out.setCell (by simp; omega) _).setCell (by simp; omega) _
  · have HF := Lib.hid hf
    cases hg : fIs gn gd
    · have HG := Lib.hid hg
      have e1 : agN fn gn fd gd = 0 := if_neg (fun h => by rw [h.2] at hg; cases hg)
      have e2 : agD fn gn fd gd = 0 := if_neg (fun h => by rw [h.2] at hg; cases hg)
      have e3 : agB fn gn fd gd = false := if_neg (fun h => by rw [h.2] at hg; cases hg)
      rw [e1, e2, e3]
      clear e1 e2 e3 hf hg
      go_enter Tryd.func22, Tryd.ntmps22
      go_wp2_with fail
      refine (validFraction_impl _ _ _ wf1 wf2).mono ?_; rintro e w1 ⟨rfl, hb1⟩
      rw [HF.out]
      have G1 := Lib.hid (fbox_keep G0.out hb1)
      have R1 := Lib.hid (fbox_keep R0.out hb1)
      have B1 := Lib.hid (bnext B0.out hb1)
      clear hb1
      obtain ⟨⟨q0, q1, -⟩, -, -⟩ := G1.out
      simp at q0 q1
      go_wp2_with fail
      refine (validFraction_impl _ _ _ wg1 wg2).mono ?_; rintro e w2 ⟨rfl, hb2⟩
      rw [HG.out]
      have R2 := Lib.hid (fbox_keep R1.out hb2)
      have B2 := Lib.hid (bnext B1.out hb2)
      clear hb2 q0 q1
      obtain ⟨⟨q0, q1, -⟩, q2, q3⟩ := R2.out
      simp at q0 q1 q2 q3
      go_wp2_with fail
      refine bodyPost_ret (v := .tuple #[.agg #[.int .i64 0, .int .i64 0], .bool false]) (by simp [results, Tryd.results22, go_sem, q0, q1]) rfl ⟨rfl, ?_⟩
      exact (B2.out.setCell (by simp; omega) _).setCell (by simp; omega) _
    · have e1 : agN fn gn fd gd = foN (adN fn gn fd.toNat gd.toNat) (adM fn gn fd.toNat gd.toNat) := if_pos ⟨hf, hg⟩
      have e2 : agD fn gn fd gd = foD (adN fn gn fd.toNat gd.toNat) (adM fn gn fd.toNat gd.toNat) := if_pos ⟨hf, hg⟩
      have e3 : agB fn gn fd gd = (ptB (adN fn gn fd.toNat gd.toNat) && ptB (adM fn gn fd.toNat gd.toNat)) := if_pos ⟨hf, hg⟩
      rw [e1, e2, e3]
      obtain ⟨⟨f3, f4⟩, -, -⟩ := fIs_bd hf
      obtain ⟨⟨g3, g4⟩, -, -⟩ := fIs_bd hg
      have h := add_yes fn gn fd.toNat gd.toNat w (by rw [Int.toNat_of_nonneg (by omega)]; exact hf) (by rw [Int.toNat_of_nonneg (by omega)]; exact hg)
      rw [Int.toNat_of_nonneg (by omega), Int.toNat_of_nonneg (by omega)] at h
      exact h
end Go.Proofs.YtnpigefbdadjfaaDoor
