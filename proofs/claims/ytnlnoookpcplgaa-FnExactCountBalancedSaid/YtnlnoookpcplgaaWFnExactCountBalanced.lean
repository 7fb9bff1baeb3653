/- The walk of the law FnExactCountBalanced. -/
import Derived.Test.YtnlnoookpcplgaaCb
namespace Go.Proofs.Ytnlnoookpcplgaa
open Go Go.RowKit
set_option linter.unusedVariables false

set_option maxRecDepth 100000 in
theorem law_FnExactCountBalanced (a0 : Int) (w0 : (Lit.int .i64 a0).wf = true) (a1 : Int) (w1 : (Lit.int .i64 a1).wf = true) (w : World) :
    Calls Try.prog 5 #[.int .i64 a0, .int .i64 a1] w fun e w' => e = .returned (.bool true) ∧ Below w.heap.size w w' := by
  have HS := Lib.hid (fun W : World => cb_spec a0 a1 W)
  have HI := Lib.hid (fun W : World => cb_impl a0 a1 W)
  clear w0 w1
  generalize hx0 : cbV a0 a1 = x0 at HS HI
  clear hx0
  generalize hx1 : cbOk a0 a1 = x1 at HS HI
  clear hx1
  cases x1
  all_goals
    have e0 : (x0 != x0) = false := by simp
    go_enter Try.func5, Try.ntmps5
    go_wp2_with fail
    refine (HS.out _).mono ?_; rintro e u1 ⟨rfl, hb1⟩
    have B1 := Lib.hid hb1
    clear hb1
    go_wp2_with fail
    refine (HI.out _).mono ?_; rintro e u2 ⟨rfl, hb2⟩
    have B2 := Lib.hid (B1.out.trans (hb2.mono B1.out.size))
    clear hb2
    go_wp2_with fail
    go_ret
    exact ⟨rfl, B2.out⟩
end Go.Proofs.Ytnlnoookpcplgaa
