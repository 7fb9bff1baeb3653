/- The walk of the law FnExactSlideDeinterleave. -/
import Derived.Test.YtkgfmpkpeipddaaDoorSlj
import Derived.Test.YtkgfmpkpeipddaaDoorErv
namespace Go.Proofs.YtkgfmpkpeipddaaDoor
open Go Go.RowKit
set_option linter.unusedVariables false

set_option maxHeartbeats 1600000 in
set_option maxRecDepth 100000 in
theorem law_FnExactSlideDeinterleave (a0 : Int) (w0 : (Lit.int .i64 a0).wf = true) (a1 : Int) (w1 : (Lit.int .i64 a1).wf = true) (a2 : ByteArray) (w2 : a2.size ≤ maxLen) (w : World) {x0 : Addr} (v0 : Ev 0 x0 w) {x1 : Addr} (v1 : Ev 1 x1 w) :
    Calls Tryd.prog 9 #[.int .i64 a0, .int .i64 a1, .string a2] w fun e w' => e = .returned (.bool true) ∧ Below w.heap.size w w' := by
  have s2 : a2.size ≤ 9223372036854775807 := by have := w2; unfold maxLen at this; exact this
  by_cases h2 : a2.size ≤ 1048576
  rotate_left
  · clear w0 w1 w2 v0 v1
    go_enter Tryd.func9, Tryd.ntmps9
    go_wp2_with fail
    go_ret
    exact ⟨rfl, Below.refl _ _⟩
  have HS := Lib.hid (fun (W : World) => slideD_spec a0 a1 a2 W w2)
  have HI := Lib.hid (fun (W : World) (hb : Below w.heap.size w W) => slideD_impl a0 a1 a2 W w2 _ _ (v0.keep hb) (v1.keep hb))
  clear w0 w1 w2 v0 v1
  generalize hz0 : slV a0 a1 false a2.data.toList = y0 at HS HI
  clear hz0
  generalize hz1 : slOk a0 a1 a2.data.toList = y1 at HS HI
  clear hz1
  cases y1
  all_goals
    go_enter Tryd.func9, Tryd.ntmps9
    have B0 := Lib.hid (Below.refl w.heap.size w)
    go_wp2_with fail
    refine (HS.out _).mono ?_; rintro e u1 ⟨rfl, hb1⟩
    have B1 := Lib.hid (B0.out.trans (hb1.mono B0.out.size))
    clear hb1 B0
    go_wp2_with fail
    refine (HI.out _ B1.out).mono ?_; rintro e u2 ⟨rfl, hb2⟩
    have B2 := Lib.hid (B1.out.trans (hb2.mono B1.out.size))
    clear hb2 B1
    go_wp2_with fail
    go_ret
    exact ⟨rfl, B2.out⟩
end Go.Proofs.YtkgfmpkpeipddaaDoor
