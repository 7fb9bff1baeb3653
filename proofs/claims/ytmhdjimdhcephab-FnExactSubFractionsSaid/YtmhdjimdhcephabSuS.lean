/- The model's SubFractions. -/
import Derived.Test.YtmhdjimdhcephabAdS
import Derived.Test.YtmhdjimdhcephabAdK
namespace Go.Proofs.Ytmhdjimdhcephab
open Go Go.RowKit
set_option linter.unusedVariables false

theorem Fs.res {w W : World} {A B C D : Value} {L : List (Nat × Value × Value)} (h : Fs w W A B C D L) : W.cell? ⟨w.heap.size + 1 + 1, 0, none⟩ = some (.int .i64 0) ∧ W.cell? ⟨w.heap.size + 1 + 1, 1, none⟩ = some (.int .i64 0) ∧ W.frozen? ⟨w.heap.size + 1 + 1, 0, none⟩ = false ∧ W.frozen? ⟨w.heap.size + 1 + 1, 1, none⟩ = false := ⟨h.1.2.2.1.1.1, h.1.2.2.1.1.2.1, h.1.2.2.1.2.1, h.1.2.2.1.2.2⟩
theorem Fs.setR {w W : World} {A B C D : Value} {L : List (Nat × Value × Value)} (h : Fs w W A B C D L) (X Y : Value) : ((W.setCell ⟨w.heap.size + 1 + 1, 0, none⟩ X).setCell ⟨w.heap.size + 1 + 1, 1, none⟩ Y).cell? ⟨w.heap.size, 0, none⟩ = some A ∧ ((W.setCell ⟨w.heap.size + 1 + 1, 0, none⟩ X).setCell ⟨w.heap.size + 1 + 1, 1, none⟩ Y).cell? ⟨w.heap.size, 1, none⟩ = some B ∧ ((W.setCell ⟨w.heap.size + 1 + 1, 0, none⟩ X).setCell ⟨w.heap.size + 1 + 1, 1, none⟩ Y).cell? ⟨w.heap.size + 1, 0, none⟩ = some C ∧ ((W.setCell ⟨w.heap.size + 1 + 1, 0, none⟩ X).setCell ⟨w.heap.size + 1 + 1, 1, none⟩ Y).cell? ⟨w.heap.size + 1, 1, none⟩ = some D := by
  have a := fbox_set_far h.1.1 (b := w.heap.size + 1 + 1) (by omega) X Y
  have c := fbox_set_far h.1.2.1 (b := w.heap.size + 1 + 1) (by omega) X Y
  exact ⟨a.1.1, a.1.2.1, c.1.1, c.1.2.1⟩
theorem Fs.set0 {w W : World} {A B C D : Value} {L : List (Nat × Value × Value)} (h : Fs w W A B C D L) (X Y : Value) : ((W.setCell ⟨w.heap.size + 1 + 1, 0, none⟩ X).setCell ⟨w.heap.size + 1 + 1, 1, none⟩ Y).cell? ⟨w.heap.size + 1 + 1, 0, none⟩ = some X ∧ ((W.setCell ⟨w.heap.size + 1 + 1, 0, none⟩ X).setCell ⟨w.heap.size + 1 + 1, 1, none⟩ Y).cell? ⟨w.heap.size + 1 + 1, 1, none⟩ = some Y ∧ Below w.heap.size w ((W.setCell ⟨w.heap.size + 1 + 1, 0, none⟩ X).setCell ⟨w.heap.size + 1 + 1, 1, none⟩ Y) := by
  have a := fbox_setF h.1.2.2.1 X Y
  exact ⟨a.1.1, a.1.2.1, (h.1.2.2.2.setCell (p := ⟨w.heap.size + 1 + 1, 0, none⟩) (by show _ ≤ _ + 1 + 1; omega) X).setCell (p := ⟨w.heap.size + 1 + 1, 1, none⟩) (by show _ ≤ _ + 1 + 1; omega) Y⟩
set_option maxRecDepth 100000 in
theorem l01FNeg_any (n d : Int) (w : World) (wn : IntKind.i64.wrap (-n) = -n) :
    Calls Try.prog 76 #[.agg #[.int .i64 n, .int .i64 d]] w fun e w' => e = .returned (.agg #[.int .i64 (-n), .int .i64 d]) ∧ Below w.heap.size w w' := by
  go_enter Try.func76, Try.ntmps76
  go_wp2_with fail
  simp [bodyPost, results, Try.results76, go_sem]
  exact ((Below.refl _ _).alloc (Nat.le_refl _) _).alloc (by simp) _
set_option maxRecDepth 100000 in
theorem sub_spec (fn fd gn gd : Int) (w : World) :
    Calls Try.prog 23 #[.agg #[.int .i64 fn, .int .i64 fd], .agg #[.int .i64 gn, .int .i64 gd]] w fun e w' => e = .returned (.tuple #[.agg #[.int .i64 (agN fn (-gn) fd gd), .int .i64 (agD fn (-gn) fd gd)], .bool (agB fn (-gn) fd gd)]) ∧ Below w.heap.size w w' := by
  have F0 := Lib.hid (fbox_alloc (fbox_alloc (fbox_new w (.int .i64 fn) (.int .i64 fd) 24) (.cells #[.int .i64 gn, .int .i64 gd] 24)) (.cells #[.int .i64 0, .int .i64 0] 24))
  have G0 := Lib.hid (fbox_alloc (fbox_new (w.alloc (.cells #[.int .i64 fn, .int .i64 fd] 24)) (.int .i64 gn) (.int .i64 gd) 24) (.cells #[.int .i64 0, .int .i64 0] 24))
  have R0 := Lib.hid (fbox_new ((w.alloc (.cells #[.int .i64 fn, .int .i64 fd] 24)).alloc (.cells #[.int .i64 gn, .int .i64 gd] 24)) (.int .i64 0) (.int .i64 0) 24)
  have B0 := Lib.hid (balloc (balloc (balloc (Below.refl w.heap.size w) (.cells #[.int .i64 fn, .int .i64 fd] 24)) (.cells #[.int .i64 gn, .int .i64 gd] 24)) (.cells #[.int .i64 0, .int .i64 0] 24))
  cases hf : fIs fn fd
  · have HF := Lib.hid hf
    have e1 : agN fn (-gn) fd gd = 0 := if_neg (fun h => by rw [h.1] at hf; cases hf)
    have e2 : agD fn (-gn) fd gd = 0 := if_neg (fun h => by rw [h.1] at hf; cases hf)
    have e3 : agB fn (-gn) fd gd = false := if_neg (fun h => by rw [h.1] at hf; cases hf)
    rw [e1, e2, e3]
    clear e1 e2 e3 hf
    go_enter Try.func23, Try.ntmps23
    go_wp2_with fail
    refine (l01FIs_any _ _ _).mono ?_; rintro e w1 ⟨rfl, hb1⟩
    rw [HF.out]
    have R1 := Lib.hid (fbox_keep R0.out hb1)
    have B1 := Lib.hid (bnext B0.out hb1)
    clear hb1
    obtain ⟨⟨q0, q1, -⟩, q2, q3⟩ := R1.out
    simp at q0 q1 q2 q3
    go_wp2_with fail
    refine bodyPost_ret (v := .tuple #[.agg #[.int .i64 0, .int .i64 0], .bool false]) (by simp [results, Try.results23, go_sem, q0, q1]) rfl ⟨rfl, ?_⟩
    exact (B1.out.setCell (by simp; omega) _).setCell (by simp; omega) _
  · have HF := Lib.hid hf
    cases hg : fIs gn gd
    · have HG := Lib.hid hg
      have e1 : agN fn (-gn) fd gd = 0 := if_neg (fun h => by have h2 := h.2; rw [fIs_neg] at h2; rw [h2] at hg; cases hg)
      have e2 : agD fn (-gn) fd gd = 0 := if_neg (fun h => by have h2 := h.2; rw [fIs_neg] at h2; rw [h2] at hg; cases hg)
      have e3 : agB fn (-gn) fd gd = false := if_neg (fun h => by have h2 := h.2; rw [fIs_neg] at h2; rw [h2] at hg; cases hg)
      rw [e1, e2, e3]
      clear e1 e2 e3 hf hg
      go_enter Try.func23, Try.ntmps23
      go_wp2_with fail
      refine (l01FIs_any _ _ _).mono ?_; rintro e w1 ⟨rfl, hb1⟩
      rw [HF.out]
      have G1 := Lib.hid (fbox_keep G0.out hb1)
      have R1 := Lib.hid (fbox_keep R0.out hb1)
      have B1 := Lib.hid (bnext B0.out hb1)
      clear hb1
      obtain ⟨⟨q0, q1, -⟩, -, -⟩ := G1.out
      simp at q0 q1
      go_wp2_with fail
      refine (l01FIs_any _ _ _).mono ?_; rintro e w2 ⟨rfl, hb2⟩
      rw [HG.out]
      have R2 := Lib.hid (fbox_keep R1.out hb2)
      have B2 := Lib.hid (bnext B1.out hb2)
      clear hb2 q0 q1
      obtain ⟨⟨q0, q1, -⟩, q2, q3⟩ := R2.out
      simp at q0 q1 q2 q3
      go_wp2_with fail
      refine bodyPost_ret (v := .tuple #[.agg #[.int .i64 0, .int .i64 0], .bool false]) (by simp [results, Try.results23, go_sem, q0, q1]) rfl ⟨rfl, ?_⟩
      exact (B2.out.setCell (by simp; omega) _).setCell (by simp; omega) _
    · have HG := Lib.hid hg
      have e1 : agN fn (-gn) fd gd = foN (adN fn (-gn) fd.toNat gd.toNat) (adM fn (-gn) fd.toNat gd.toNat) := if_pos ⟨hf, (fIs_neg gn gd).trans hg⟩
      have e2 : agD fn (-gn) fd gd = foD (adN fn (-gn) fd.toNat gd.toNat) (adM fn (-gn) fd.toNat gd.toNat) := if_pos ⟨hf, (fIs_neg gn gd).trans hg⟩
      have e3 : agB fn (-gn) fd gd = (ptB (adN fn (-gn) fd.toNat gd.toNat) && ptB (adM fn (-gn) fd.toNat gd.toNat)) := if_pos ⟨hf, (fIs_neg gn gd).trans hg⟩
      rw [e1, e2, e3]
      clear e1 e2 e3
      obtain ⟨⟨f3, f4⟩, f1, f2⟩ := fIs_bd hf
      obtain ⟨⟨g3, g4⟩, g1, g2⟩ := fIs_bd hg
      have HC := Lib.hid (fun W => l01FAdd_any fn (-gn) fd.toNat gd.toNat W (by rw [Int.toNat_of_nonneg (by omega)]; exact hf) (by rw [Int.toNat_of_nonneg (by omega)]; exact (fIs_neg gn gd).trans hg))
      rw [Int.toNat_of_nonneg (show 0 ≤ fd by omega), Int.toNat_of_nonneg (show 0 ≤ gd by omega)] at HC
      clear hf hg
      generalize foN (adN fn (-gn) fd.toNat gd.toNat) (adM fn (-gn) fd.toNat gd.toNat) = X at *
      generalize foD (adN fn (-gn) fd.toNat gd.toNat) (adM fn (-gn) fd.toNat gd.toNat) = Y at *
      generalize (ptB (adN fn (-gn) fd.toNat gd.toNat) && ptB (adM fn (-gn) fd.toNat gd.toNat)) = Z at *
      go_enter Try.func23, Try.ntmps23
      go_wp2_with fail
      refine (l01FIs_any _ _ _).mono ?_; rintro e w1 ⟨rfl, hb1⟩
      rw [HF.out]
      have F1 := Lib.hid (fbox_keep F0.out hb1)
      have G1 := Lib.hid (fbox_keep G0.out hb1)
      have R1 := Lib.hid (fbox_keep R0.out hb1)
      have B1 := Lib.hid (bnext B0.out hb1)
      have hbb1 := hb1
      clear hb1
      obtain ⟨⟨q0, q1, -⟩, -, -⟩ := G1.out
      simp at q0 q1
      go_wp2_with fail
      refine (l01FIs_any _ _ _).mono ?_; rintro e w2 ⟨rfl, hb2⟩
      rw [HG.out]
      have F2 := Lib.hid (fbox_keep F1.out hb2)
      have G2 := Lib.hid (fbox_keep G1.out hb2)
      have R2 := Lib.hid (fbox_keep R1.out hb2)
      have B2 := Lib.hid (bnext B1.out hb2)
      have hbb2 := hb2
      clear hb2 q0 q1
      have wn : IntKind.i64.wrap (-gn) = -gn := IntWalk.i64_in _ (by omega)
      have HNG := Lib.hid (fun W => l01FNeg_any gn gd W wn)
      have t2 : Fs w w2 (.int .i64 fn) (.int .i64 fd) (.int .i64 gn) (.int .i64 gd) [] := ((Fs.first w (.int .i64 fn) (.int .i64 fd) (.int .i64 gn) (.int .i64 gd) 24).keep hbb1).keep hbb2
      have td := t2.drew
      obtain ⟨y0, y1, y2, y3⟩ := t2.all
      clear F2 G2 R2 B2 F1 G1 R1 B1 F0 G0 R0 B0
      go_wp2_with fail
      go_region_held3 (fun w' => w'.cell? ⟨w.heap.size, 0, none⟩ = some (.int .i64 fn) ∧ w'.cell? ⟨w.heap.size, 1, none⟩ = some (.int .i64 fd) ∧ w'.cell? ⟨w.heap.size + 1, 0, none⟩ = some (.int .i64 gn) ∧ w'.cell? ⟨w.heap.size + 1, 1, none⟩ = some (.int .i64 gd)) ((first | with_reducible assumption | with_reducible exact Fs.all t8 | with_reducible exact Fs.all t9 | with_reducible exact Fs.setR t9 _ _ | with_reducible exact Fs.all td | fail))
        (first
          | (go_at_call 76; refine (HNG.out _).mono ?_; rintro e w8 ⟨rfl, hb8⟩; have t8 := td.keep hb8; obtain ⟨y0, y1, y2, y3⟩ := t8.all)
          | (go_at_call 68; refine (HC.out _).mono ?_; rintro e w9 ⟨rfl, hb9⟩; have t9 := t8.keep hb9; obtain ⟨y0, y1, y2, y3⟩ := t9.all; obtain ⟨k0, k1, k2, k3⟩ := t9.res)
          | fail)
      have s0 := t9.set0 (.int .i64 X) (.int .i64 Y)
      obtain ⟨s1, s2, s3⟩ := s0
      go_wp2_with fail
      refine bodyPost_ret (v := .tuple #[.agg #[.int .i64 X, .int .i64 Y], .bool Z]) (by simp [results, Try.results23, go_sem, s1, s2]) rfl ⟨rfl, ?_⟩
      exact s3
end Go.Proofs.Ytmhdjimdhcephab
