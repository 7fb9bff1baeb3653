/- The walk of the law FnExactIsCheck. -/
import Derived.Test.YtkgfmpkpeipddaaIck
namespace Go.Proofs.Ytkgfmpkpeipddaa
open Go Go.RowKit
set_option linter.unusedVariables false

set_option maxHeartbeats 1600000 in
set_option maxRecDepth 100000 in
theorem law_FnExactIsCheck (a0 : Int) (w0 : (Lit.int .i64 a0).wf = true) (w : World)  :
    Calls Try.prog 3 #[.int .i64 a0] w fun e w' => e = .returned (.bool true) ∧ Below w.heap.size w w' := by
  have HS := Lib.hid (fun (W : World) => isCheck_spec a0 W)
  have HI := Lib.hid (fun (W : World) => isCheck_impl a0 W)
  clear w0
  generalize hz0 : ckB a0 = y0 at HS HI
  clear hz0
  cases y0
  all_goals
    go_enter Try.func3, Try.ntmps3
    have B0 := Lib.hid (Below.refl w.heap.size w)
    go_wp2_with fail
    refine (HS.out _).mono ?_; rintro e u1 ⟨rfl, hb1⟩
    have B1 := Lib.hid (B0.out.trans (hb1.mono B0.out.size))
    clear hb1  B0
    go_wp2_with fail
    refine (HI.out _).mono ?_; rintro e u2 ⟨rfl, hb2⟩
    have B2 := Lib.hid (B1.out.trans (hb2.mono B1.out.size))
    clear hb2  B1
    go_wp2_with fail
    go_ret
    exact ⟨rfl, B2.out⟩
end Go.Proofs.Ytkgfmpkpeipddaa
