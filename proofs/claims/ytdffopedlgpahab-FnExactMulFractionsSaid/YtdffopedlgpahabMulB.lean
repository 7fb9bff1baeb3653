/- Both products of fractions. -/
import Derived.Test.YtdffopedlgpahabMul
namespace Go.Proofs.Ytdffopedlgpahab
open Go Go.RowKit
set_option linter.unusedVariables false

def mlOk (fn fd gn gd : Int) : Prop := fIs fn fd = true ∧ fIs gn gd = true
instance (fn fd gn gd : Int) : Decidable (mlOk fn fd gn gd) := inferInstanceAs (Decidable (_ ∧ _))
def mlN (fn fd gn gd : Int) : Int := if mlOk fn fd gn gd then foN (mkN fn gd * mkN gn fd) (mkD fn gd * mkD gn fd) else 0
def mlD (fn fd gn gd : Int) : Int := if mlOk fn fd gn gd then foD (mkN fn gd * mkN gn fd) (mkD fn gd * mkD gn fd) else 0
def mlB (fn fd gn gd : Int) : Bool := if mlOk fn fd gn gd then ptB (mkN fn gd * mkN gn fd) && ptB (mkD fn gd * mkD gn fd) else false
theorem fIs_bd {n d : Int} (h : fIs n d = true) : (1 ≤ d ∧ d ≤ 1000000000000000000) ∧ -1000000000000000000 ≤ n ∧ n ≤ 1000000000000000000 :=
  have e := of_decide_eq_true h
  ⟨⟨e.1, e.2.1⟩, e.2.2.1, e.2.2.2.1⟩

set_option maxRecDepth 100000 in
theorem mul_spec (fn fd gn gd : Int) (w : World) :
    Calls Try.prog 37 #[.agg #[.int .i64 fn, .int .i64 fd], .agg #[.int .i64 gn, .int .i64 gd]] w fun e w' => e = .returned (.tuple #[.agg #[.int .i64 (mlN fn fd gn gd), .int .i64 (mlD fn fd gn gd)], .bool (mlB fn fd gn gd)]) ∧ Below w.heap.size w w' := by
  have F0 := Lib.hid (fbox_alloc (fbox_alloc (fbox_new w (.int .i64 fn) (.int .i64 fd) 39) (.cells #[.int .i64 gn, .int .i64 gd] 39)) (.cells #[.int .i64 0, .int .i64 0] 39))
  have G0 := Lib.hid (fbox_alloc (fbox_new (w.alloc (.cells #[.int .i64 fn, .int .i64 fd] 39)) (.int .i64 gn) (.int .i64 gd) 39) (.cells #[.int .i64 0, .int .i64 0] 39))
  have R0 := Lib.hid (fbox_new ((w.alloc (.cells #[.int .i64 fn, .int .i64 fd] 39)).alloc (.cells #[.int .i64 gn, .int .i64 gd] 39)) (.int .i64 0) (.int .i64 0) 39)
  have B0 := Lib.hid (balloc (balloc (balloc (Below.refl w.heap.size w) (.cells #[.int .i64 fn, .int .i64 fd] 39)) (.cells #[.int .i64 gn, .int .i64 gd] 39)) (.cells #[.int .i64 0, .int .i64 0] 39))
  cases hf : fIs fn fd
  · have HF := Lib.hid hf
    have e1 : mlN fn fd gn gd = 0 := if_neg (fun h => by rw [h.1] at hf; cases hf)
    have e2 : mlD fn fd gn gd = 0 := if_neg (fun h => by rw [h.1] at hf; cases hf)
    have e3 : mlB fn fd gn gd = false := if_neg (fun h => by rw [h.1] at hf; cases hf)
    rw [e1, e2, e3]
    clear e1 e2 e3 hf
    go_enter Try.func37, Try.ntmps37
    go_wp2_with fail
    refine (l01FIs_any _ _ _).mono ?_; rintro e w1 ⟨rfl, hb1⟩
    rw [HF.out]
    have R1 := Lib.hid (fbox_keep R0.out hb1)
    have B1 := Lib.hid (bnext B0.out hb1)
    clear hb1
    obtain ⟨⟨q0, q1, -⟩, q2, q3⟩ := R1.out
    simp at q0 q1 q2 q3
    go_wp2_with fail
    refine bodyPost_ret (v := .tuple #[.agg #[.int .i64 0, .int .i64 0], .bool false]) (by simp [results, Try.results37, go_sem, q0, q1]) rfl ⟨rfl, ?_⟩
    exact (B1.out.setCell (by simp; omega) _).setCell (by simp; omega) _
  · have HF := Lib.hid hf
    cases hg : fIs gn gd
    · have HG := Lib.hid hg
      have e1 : mlN fn fd gn gd = 0 := if_neg (fun h => by rw [h.2] at hg; cases hg)
      have e2 : mlD fn fd gn gd = 0 := if_neg (fun h => by rw [h.2] at hg; cases hg)
      have e3 : mlB fn fd gn gd = false := if_neg (fun h => by rw [h.2] at hg; cases hg)
      rw [e1, e2, e3]
      clear e1 e2 e3 hf hg
      go_enter Try.func37, Try.ntmps37
      go_wp2_with fail
      refine (l01FIs_any _ _ _).mono ?_; rintro e w1 ⟨rfl, hb1⟩
      rw [HF.out]
      have G1 := Lib.hid (fbox_keep G0.out hb1)
      have R1 := Lib.hid (fbox_keep R0.out hb1)
      have B1 := Lib.hid (bnext B0.out hb1)
      clear hb1
      obtain ⟨⟨q0, q1, -⟩, -, -⟩ := G1.out
      simp at q0 q1
      go_wp2_with fail
      refine (l01FIs_any _ _ _).mono ?_; rintro e w2 ⟨rfl, hb2⟩
      rw [HG.out]
      have R2 := Lib.hid (fbox_keep R1.out hb2)
      have B2 := Lib.hid (bnext B1.out hb2)
      clear hb2 q0 q1
      obtain ⟨⟨q0, q1, -⟩, q2, q3⟩ := R2.out
      simp at q0 q1 q2 q3
      go_wp2_with fail
      refine bodyPost_ret (v := .tuple #[.agg #[.int .i64 0, .int .i64 0], .bool false]) (by simp [results, Try.results37, go_sem, q0, q1]) rfl ⟨rfl, ?_⟩
      exact (B2.out.setCell (by simp; omega) _).setCell (by simp; omega) _
    · have HG := Lib.hid hg
      have e1 : mlN fn fd gn gd = foN (mkN fn gd * mkN gn fd) (mkD fn gd * mkD gn fd) := if_pos ⟨hf, hg⟩
      have e2 : mlD fn fd gn gd = foD (mkN fn gd * mkN gn fd) (mkD fn gd * mkD gn fd) := if_pos ⟨hf, hg⟩
      have e3 : mlB fn fd gn gd = (ptB (mkN fn gd * mkN gn fd) && ptB (mkD fn gd * mkD gn fd)) := if_pos ⟨hf, hg⟩
      rw [e1, e2, e3]
      clear e1 e2 e3
      obtain ⟨⟨f3, f4⟩, f1, f2⟩ := fIs_bd hf
      obtain ⟨⟨g3, g4⟩, g1, g2⟩ := fIs_bd hg
      have HC := Lib.hid (fun W => l01FMul_any fn fd gn gd W f1 f2 f3 f4 g1 g2 g3 g4)
      clear hf hg
      generalize foN (mkN fn gd * mkN gn fd) (mkD fn gd * mkD gn fd) = X at *
      generalize foD (mkN fn gd * mkN gn fd) (mkD fn gd * mkD gn fd) = Y at *
      generalize (ptB (mkN fn gd * mkN gn fd) && ptB (mkD fn gd * mkD gn fd)) = Z at *
      go_enter Try.func37, Try.ntmps37
      go_wp2_with fail
      refine (l01FIs_any _ _ _).mono ?_; rintro e w1 ⟨rfl, hb1⟩
      rw [HF.out]
      have F1 := Lib.hid (fbox_keep F0.out hb1)
      have G1 := Lib.hid (fbox_keep G0.out hb1)
      have R1 := Lib.hid (fbox_keep R0.out hb1)
      have B1 := Lib.hid (bnext B0.out hb1)
      clear hb1
      obtain ⟨⟨q0, q1, -⟩, -, -⟩ := G1.out
      simp at q0 q1
      go_wp2_with fail
      refine (l01FIs_any _ _ _).mono ?_; rintro e w2 ⟨rfl, hb2⟩
      rw [HG.out]
      have F2 := Lib.hid (fbox_keep F1.out hb2)
      have G2 := Lib.hid (fbox_keep G1.out hb2)
      have R2 := Lib.hid (fbox_keep R1.out hb2)
      have B2 := Lib.hid (bnext B1.out hb2)
      clear hb2 q0 q1
      obtain ⟨⟨q0, q1, -⟩, -, -⟩ := F2.out
      obtain ⟨⟨q2, q3, -⟩, -, -⟩ := G2.out
      simp at q0 q1 q2 q3
      go_wp2_with fail
      refine (HC.out _).mono ?_; rintro e w3 ⟨rfl, hb3⟩
      have R3 := Lib.hid (fbox_keep R2.out hb3)
      have B3 := Lib.hid (bnext B2.out hb3)
      clear hb3 q0 q1 q2 q3
      obtain ⟨⟨q0, q1, -⟩, q2, q3⟩ := R3.out
      simp at q0 q1 q2 q3
      go_wp2_with fail
      refine bodyPost_ret (v := .tuple #[.agg #[.int .i64 X, .int .i64 Y], .bool Z]) (by simp [results, Try.results37, go_sem, q0, q1]) rfl ⟨rfl, ?_⟩
      exact (B3.out.setCell (by simp; omega) _).setCell (by simp; omega) _
end Go.Proofs.Ytdffopedlgpahab
