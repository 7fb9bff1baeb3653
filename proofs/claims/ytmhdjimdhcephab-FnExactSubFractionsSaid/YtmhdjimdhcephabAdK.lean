/- The program's SubFractions. -/
import Derived.Test.YtmhdjimdhcephabAdJ
namespace Go.Proofs.Ytmhdjimdhcephab
open Go Go.RowKit
set_option linter.unusedVariables false

theorem fIs_neg (n d : Int) : fIs (-n) d = fIs n d := by
  unfold fIs
  rw [Int.natAbs_neg]
  exact decide_eq_decide.2 ⟨fun ⟨a, b, c, e, f⟩ => ⟨a, b, by omega, by omega, f⟩, fun ⟨a, b, c, e, f⟩ => ⟨a, b, by omega, by omega, f⟩⟩
set_option maxRecDepth 100000 in
theorem sub_impl (fn fd gn gd : Int) (w : World) (wf1 : -9223372036854775808 ≤ fn) (wf2 : fn ≤ 9223372036854775807) (wg1 : -9223372036854775808 ≤ gn) (wg2 : gn ≤ 9223372036854775807) :
    Calls Try.prog 24 #[.agg #[.int .i64 fn, .int .i64 fd], .agg #[.int .i64 gn, .int .i64 gd]] w fun e w' => e = .returned (.tuple #[.agg #[.int .i64 (agN fn (-gn) fd gd), .int .i64 (agD fn (-gn) fd gd)], .bool (agB fn (-gn) fd gd)]) ∧ Below w.heap.size w w' := by
  have F0 := Lib.hid (fbox_alloc (fbox_alloc (fbox_new w (.int .i64 fn) (.int .i64 fd) 24) (.cells #[.int .i64 gn, .int .i64 gd] 24)) (.cells #[.int .i64 0, .int .i64 0] 24))
  have G0 := Lib.hid (fbox_alloc (fbox_new (w.alloc (.cells #[.int .i64 fn, .int .i64 fd] 24)) (.int .i64 gn) (.int .i64 gd) 24) (.cells #[.int .i64 0, .int .i64 0] 24))
  have R0 := Lib.hid (fbox_new ((w.alloc (.cells #[.int .i64 fn, .int .i64 fd] 24)).alloc (.cells #[.int .i64 gn, .int .i64 gd] 24)) (.int .i64 0) (.int .i64 0) 24)
  have B0 := Lib.hid (balloc (balloc (balloc (Below.refl w.heap.size w) (.cells #[.int .i64 fn, .int .i64 fd] 24)) (.cells #[.int .i64 gn, .int .i64 gd] 24)) (.cells #[.int .i64 0, .int .i64 0] 24))
  cases hg : fIs gn gd
  · have HG := Lib.hid hg
    have hn := (fIs_neg gn gd).trans hg
    have e1 : agN fn (-gn) fd gd = 0 := if_neg (fun h => by rw [h.2] at hn; cases hn)
    have e2 : agD fn (-gn) fd gd = 0 := if_neg (fun h => by rw [h.2] at hn; cases hn)
    have e3 : agB fn (-gn) fd gd = false := if_neg (fun h => by rw [h.2] at hn; cases hn)
    rw [e1, e2, e3]
    clear e1 e2 e3 hg hn
    go_enter Try.func24, Try.ntmps24
    go_wp2_with fail
    refine (validFraction_impl _ _ _ wg1 wg2).mono ?_; rintro e w1 ⟨rfl, hb1⟩
    rw [HG.out]
    have R1 := Lib.hid (fbox_keep R0.out hb1)
    have B1 := Lib.hid (bnext B0.out hb1)
    clear hb1
    obtain ⟨⟨q0, q1, -⟩, q2, q3⟩ := R1.out
    simp at q0 q1 q2 q3
    go_wp2_with fail
    refine bodyPost_ret (v := .tuple #[.agg #[.int .i64 0, .int .i64 0], .bool false]) (by simp [results, Try.results24, go_sem, q0, q1]) rfl ⟨rfl, ?_⟩
    exact (B1.out.setCell (by simp; omega) _).setCell (by simp; omega) _
  · have HG := Lib.hid hg
    obtain ⟨-, g1, g2⟩ := fIs_bd hg
    have wn : IntKind.i64.wrap (-gn) = -gn := IntWalk.i64_in _ (by omega)
    have HAD := Lib.hid (fun W => add_impl fn fd (-gn) gd W wf1 wf2 (by omega) (by omega))
    generalize agN fn (-gn) fd gd = X at *
    generalize agD fn (-gn) fd gd = Y at *
    generalize agB fn (-gn) fd gd = Z at *
    clear hg
    go_enter Try.func24, Try.ntmps24
    go_wp2_with fail
    refine (validFraction_impl _ _ _ wg1 wg2).mono ?_; rintro e w1 ⟨rfl, hb1⟩
    rw [HG.out]
    have F1 := Lib.hid (fbox_keep F0.out hb1)
    have G1 := Lib.hid (fbox_keep G0.out hb1)
    have R1 := Lib.hid (fbox_keep R0.out hb1)
    have B1 := Lib.hid (bnext B0.out hb1)
    clear hb1
    obtain ⟨⟨p0, p1, -⟩, -, -⟩ := F1.out
    obtain ⟨⟨q0, q1, -⟩, -, -⟩ := G1.out
    simp at p0 p1 q0 q1
    go_wp2_with fail
    refine (HAD.out _).mono ?_; rintro e w2 ⟨rfl, hb2⟩
    have R2 := Lib.hid (fbox_keep R1.out hb2)
    have B2 := Lib.hid (bnext B1.out hb2)
    clear hb2 p0 p1 q0 q1
    obtain ⟨⟨q0, q1, -⟩, q2, q3⟩ := R2.out
    simp at q0 q1 q2 q3
    go_wp2_with fail
    refine bodyPost_ret (v := .tuple #[.agg #[.int .i64 X, .int .i64 Y], .bool Z]) (by simp [results, Try.results24, go_sem, q0, q1]) rfl ⟨rfl, ?_⟩
    exact (B2.out.setCell (by simp; omega) _).setCell (by simp; omega) _
end Go.Proofs.Ytmhdjimdhcephab
