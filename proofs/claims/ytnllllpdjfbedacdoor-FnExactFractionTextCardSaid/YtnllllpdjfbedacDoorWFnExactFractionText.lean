/- The walk of the law FnExactFractionText. -/
import Derived.Test.YtnllllpdjfbedacDoorFtx
namespace Go.Proofs.YtnllllpdjfbedacDoor
open Go Go.RowKit
set_option linter.unusedVariables false

set_option maxRecDepth 100000 in
theorem law_FnExactFractionText (n : Int) (wn : (Lit.int .i64 n).wf = true) (d : Int) (wd : (Lit.int .i64 d).wf = true) (w : World) (htab : Lib.TabIs Tryd.prog w "internal/strconv.uint64pow10" .u64 Lib.pow10Tab) :
    Calls Tryd.prog 3 #[.agg #[.int .i64 n, .int .i64 d]] w fun e w' => e = .returned (.bool true) ∧ Below w.heap.size w w' := by
  have HN := i64_bounds wn
  have HS := Lib.hid (fun W => fractionText_spec n d W)
  have HI := Lib.hid (fun W h => fractionText_impl n d W HN.1 HN.2 h)
  have HT := Lib.hid (Lib.tabBelow_of_tabIs htab)
  have BX := Lib.hid (box_new w (.int .i64 n) (.int .i64 d) 23)
  have BB : Hid (Below w.heap.size w (w.alloc (.cells #[.int .i64 n, .int .i64 d] 23))) := (Below.refl _ _).alloc (Nat.le_refl _) _
  clear wn wd htab HN
  generalize fTV n d = A at *
  generalize fIs n d = z at *
  cases z
  all_goals
    go_enter Tryd.func3, Tryd.ntmps3
    go_wp2_with fail
    refine (toFraction_any _ _ _).mono ?_; rintro e w1 ⟨rfl, hb1⟩
    have X1 := Lib.hid (box_keep BX.out hb1)
    have B1 := Lib.hid (BB.out.trans (hb1.mono BB.out.size))
    clear hb1
    go_wp2_with fail
    refine (HS.out _).mono ?_; rintro e w2 ⟨rfl, hb2⟩
    have X2 := Lib.hid (box_keep X1.out hb2)
    have B2 := Lib.hid (B1.out.trans (hb2.mono B1.out.size))
    clear hb2
    obtain ⟨q0, q1, -⟩ := X2.out
    go_wp2_with fail
    refine (toFraction_any _ _ _).mono ?_; rintro e w3 ⟨rfl, hb3⟩
    have B3 := Lib.hid (B2.out.trans (hb3.mono B2.out.size))
    clear hb3 q0 q1
    go_wp2_with fail
    refine (HI.out _ (HT.out _ B3.out)).mono ?_; rintro e w4 ⟨rfl, hb4⟩
    have B4 := Lib.hid (B3.out.trans (hb4.mono B3.out.size))
    clear hb4
    go_wp2_with fail
    go_ret
    exact ⟨rfl, B4.out⟩
end Go.Proofs.YtnllllpdjfbedacDoor
