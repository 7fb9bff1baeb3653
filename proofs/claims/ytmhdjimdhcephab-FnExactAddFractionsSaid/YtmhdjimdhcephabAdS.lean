/- The model's AddFractions. -/
import Derived.Test.YtmhdjimdhcephabWdB
import Derived.Test.YtmhdjimdhcephabAdJ
namespace Go.Proofs.Ytmhdjimdhcephab
open Go Go.RowKit
set_option linter.unusedVariables false

set_option maxRecDepth 100000 in
theorem add_spec (fn fd gn gd : Int) (w : World) :
    Calls Try.prog 21 #[.agg #[.int .i64 fn, .int .i64 fd], .agg #[.int .i64 gn, .int .i64 gd]] w fun e w' => e = .returned (.tuple #[.agg #[.int .i64 (agN fn gn fd gd), .int .i64 (agD fn gn fd gd)], .bool (agB fn gn fd gd)]) ∧ Below w.heap.size w w' := by
  have F0 := Lib.hid (fbox_alloc (fbox_alloc (fbox_new w (.int .i64 fn) (.int .i64 fd) 24) (.cells #[.int .i64 gn, .int .i64 gd] 24)) (.cells #[.int .i64 0, .int .i64 0] 24))
  have G0 := Lib.hid (fbox_alloc (fbox_new (w.alloc (.cells #[.int .i64 fn, .int .i64 fd] 24)) (.int .i64 gn) (.int .i64 gd) 24) (.cells #[.int .i64 0, .int .i64 0] 24))
  have R0 := Lib.hid (fbox_new ((w.alloc (.cells #[.int .i64 fn, .int .i64 fd] 24)).alloc (.cells #[.int .i64 gn, .int .i64 gd] 24)) (.int .i64 0) (.int .i64 0) 24)
  have B0 := Lib.hid (balloc (balloc (balloc (Below.refl w.heap.size w) (.cells #[.int .i64 fn, .int .i64 fd] 24)) (.cells #[.int .i64 gn, .int .i64 gd] 24)) (.cells #[.int .i64 0, .int .i64 0] 24))
  cases hf : fIs fn fd
  · have HF := Lib.hid hf
    have e1 : agN fn gn fd gd = 0 := if_neg (fun h => by rw [h.1] at hf; cases hf)
    have e2 : agD fn gn fd gd = 0 := if_neg (fun h => by rw [h.1] at hf; cases hf)
    have e3 : agB fn gn fd gd = false := if_neg (fun h => by rw [h.1] at hf; cases hf)
    rw [e1, e2, e3]
    clear e1 e2 e3 hf
    go_enter Try.func21, Try.ntmps21
    go_wp2_with fail
    refine (l01FIs_any _ _ _).mono ?_; rintro e w1 ⟨rfl, hb1⟩
    rw [HF.out]
    have R1 := Lib.hid (fbox_keep R0.out hb1)
    have B1 := Lib.hid (bnext B0.out hb1)
    clear hb1
    obtain ⟨⟨q0, q1, -⟩, q2, q3⟩ := R1.out
    simp at q0 q1 q2 q3
    go_wp2_with fail
    refine bodyPost_ret (v := .tuple #[.agg #[.int .i64 0, .int .i64 0], .bool false]) (by simp [results, Try.results21, go_sem, q0, q1]) rfl ⟨rfl, ?_⟩
    exact (B1.out.setCell (by simp; omega) _).setCell (by simp; omega) _
  · have HF := Lib.hid hf
    cases hg : fIs gn gd
    · have HG := Lib.hid hg
      have e1 : agN fn gn fd gd = 0 := if_neg (fun h => by rw [h.2] at hg; cases hg)
      have e2 : agD fn gn fd gd = 0 := if_neg (fun h => by rw [h.2] at hg; cases hg)
      have e3 : agB fn gn fd gd = false := if_neg (fun h => by rw [h.2] at hg; cases hg)
      rw [e1, e2, e3]
      clear e1 e2 e3 hf hg
      go_enter Try.func21, Try.ntmps21
      go_wp2_with fail
      refine (l01FIs_any _ _ _).mono ?_; rintro e w1 ⟨rfl, hb1⟩
      rw [HF.out]
      have G1 := Lib.hid (fbox_keep G0.out hb1)
      have R1 := Lib.hid (fbox_keep R0.out hb1)
      have B1 := Lib.hid (bnext B0.out hb1)
      clear hb1
      obtain ⟨⟨q0, q1, -⟩, -, -⟩ := G1.out
      simp at q0 q1
      go_wp2_with fail
      refine (l01FIs_any _ _ _).mono ?_; rintro e w2 ⟨rfl, hb2⟩
      rw [HG.out]
      have R2 := Lib.hid (fbox_keep R1.out hb2)
      have B2 := Lib.hid (bnext B1.out hb2)
      clear hb2 q0 q1
      obtain ⟨⟨q0, q1, -⟩, q2, q3⟩ := R2.out
      simp at q0 q1 q2 q3
      go_wp2_with fail
      refine bodyPost_ret (v := .tuple #[.agg #[.int .i64 0, .int .i64 0], .bool false]) (by simp [results, Try.results21, go_sem, q0, q1]) rfl ⟨rfl, ?_⟩
      exact (B2.out.setCell (by simp; omega) _).setCell (by simp; omega) _
    · have HG := Lib.hid hg
      have e1 : agN fn gn fd gd = foN (adN fn gn fd.toNat gd.toNat) (adM fn gn fd.toNat gd.toNat) := if_pos ⟨hf, hg⟩
      have e2 : agD fn gn fd gd = foD (adN fn gn fd.toNat gd.toNat) (adM fn gn fd.toNat gd.toNat) := if_pos ⟨hf, hg⟩
      have e3 : agB fn gn fd gd = (ptB (adN fn gn fd.toNat gd.toNat) && ptB (adM fn gn fd.toNat gd.toNat)) := if_pos ⟨hf, hg⟩
      rw [e1, e2, e3]
      clear e1 e2 e3
      obtain ⟨⟨f3, f4⟩, f1, f2⟩ := fIs_bd hf
      obtain ⟨⟨g3, g4⟩, g1, g2⟩ := fIs_bd hg
      have HC := Lib.hid (fun W => l01FAdd_any fn gn fd.toNat gd.toNat W (by rw [Int.toNat_of_nonneg (by omega)]; exact hf) (by rw [Int.toNat_of_nonneg (by omega)]; exact hg))
      rw [Int.toNat_of_nonneg (show 0 ≤ fd by omega), Int.toNat_of_nonneg (show 0 ≤ gd by omega)] at HC
      clear hf hg
      generalize foN (adN fn gn fd.toNat gd.toNat) (adM fn gn fd.toNat gd.toNat) = X at *
      generalize foD (adN fn gn fd.toNat gd.toNat) (adM fn gn fd.toNat gd.toNat) = Y at *
      generalize (ptB (adN fn gn fd.toNat gd.toNat) && ptB (adM fn gn fd.toNat gd.toNat)) = Z at *
      go_enter Try.func21, Try.ntmps21
      go_wp2_with fail
      refine (l01FIs_any _ _ _).mono ?_; rintro e w1 ⟨rfl, hb1⟩
      rw [HF.out]
      have F1 := Lib.hid (fbox_keep F0.out hb1)
      have G1 := Lib.hid (fbox_keep G0.out hb1)
      have R1 := Lib.hid (fbox_keep R0.out hb1)
      have B1 := Lib.hid (bnext B0.out hb1)
      clear hb1
      obtain ⟨⟨q0, q1, -⟩, -, -⟩ := G1.out
      simp at q0 q1
      go_wp2_with fail
      refine (l01FIs_any _ _ _).mono ?_; rintro e w2 ⟨rfl, hb2⟩
      rw [HG.out]
      have F2 := Lib.hid (fbox_keep F1.out hb2)
      have G2 := Lib.hid (fbox_keep G1.out hb2)
      have R2 := Lib.hid (fbox_keep R1.out hb2)
      have B2 := Lib.hid (bnext B1.out hb2)
      clear hb2 q0 q1
      obtain ⟨⟨q0, q1, -⟩, -, -⟩ := F2.out
      obtain ⟨⟨q2, q3, -⟩, -, -⟩ := G2.out
      simp at q0 q1 q2 q3
      go_wp2_with fail
      refine (HC.out _).mono ?_; rintro e w3 ⟨rfl, hb3⟩
      have R3 := Lib.hid (fbox_keep R2.out hb3)
      have B3 := Lib.hid (bnext B2.out hb3)
      clear hb3 q0 q1 q2 q3
      obtain ⟨⟨q0, q1, -⟩, q2, q3⟩ := R3.out
      simp at q0 q1 q2 q3
      go_wp2_with fail
      refine bodyPost_ret (v := .tuple #[.agg #[.int .i64 X, .int .i64 Y], .bool Z]) (by simp [results, Try.results21, go_sem, q0, q1]) rfl ⟨rfl, ?_⟩
      exact (B3.out.setCell (by simp; omega) _).setCell (by simp; omega) _
end Go.Proofs.Ytmhdjimdhcephab
