/- The walk of the law FnExactLeastApart. -/
import Derived.Test.YtkgfmpkpeipddaaDoorLak
import Derived.Test.YtkgfmpkpeipddaaDoorErv
namespace Go.Proofs.YtkgfmpkpeipddaaDoor
open Go Go.RowKit
set_option linter.unusedVariables false

set_option maxHeartbeats 1600000 in
set_option maxRecDepth 100000 in
theorem law_FnExactLeastApart (a0 : Int) (w0 : (Lit.int .i64 a0).wf = true) (a1 : Int) (w1 : (Lit.int .i64 a1).wf = true) (a2 : Int) (w2 : (Lit.int .i64 a2).wf = true) (w : World) {x0 : Addr} (v0 : Ev 0 x0 w) {x1 : Addr} (v1 : Ev 1 x1 w) :
    Calls Tryd.prog 7 #[.int .i64 a0, .int .i64 a1, .int .i64 a2] w fun e w' => e = .returned (.bool true) ∧ Below w.heap.size w w' := by
  have HS := Lib.hid (fun (W : World) => leastApart_spec a0 a1 a2 W)
  have HI := Lib.hid (fun (W : World) (hb : Below w.heap.size w W) => leastApart_impl a0 a1 a2 W _ _ (v0.keep hb) (v1.keep hb))
  clear w0 w1 w2 v0 v1
  generalize hz0 : laV a0 a1 a2 = y0 at HS HI
  clear hz0
  generalize hz1 : laOk a0 a1 a2 = y1 at HS HI
  clear hz1
  cases y1
  all_goals
    have e0 : (y0 != y0) = false := by simp
    go_enter Tryd.func7, Tryd.ntmps7
    have B0 := Lib.hid (Below.refl w.heap.size w)
    go_wp2_with fail
    refine (HS.out _).mono ?_; rintro e u1 ⟨rfl, hb1⟩
    have B1 := Lib.hid (B0.out.trans (hb1.mono B0.out.size))
    clear hb1 B0
    go_wp2_with fail
    refine (HI.out _ B1.out).mono ?_; rintro e u2 ⟨rfl, hb2⟩
    have B2 := Lib.hid (B1.out.trans (hb2.mono B1.out.size))
    clear hb2 B1
    go_wp2_with fail
    go_ret
    exact ⟨rfl, B2.out⟩
end Go.Proofs.YtkgfmpkpeipddaaDoor
