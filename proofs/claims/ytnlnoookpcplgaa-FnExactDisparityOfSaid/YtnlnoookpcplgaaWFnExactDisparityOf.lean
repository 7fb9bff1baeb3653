/- The walk of the law FnExactDisparityOf. -/
import Derived.Test.YtnlnoookpcplgaaDis
namespace Go.Proofs.Ytnlnoookpcplgaa
open Go Go.RowKit
set_option linter.unusedVariables false

set_option maxRecDepth 100000 in
theorem law_FnExactDisparityOf (a0 : ByteArray) (w0 : a0.size ≤ maxLen) (w : World) :
    Calls Try.prog 4 #[.string a0] w fun e w' => e = .returned (.bool true) ∧ Below w.heap.size w w' := by
  have s0 : a0.size ≤ 9223372036854775807 := by have := w0; unfold maxLen at this; exact this
  by_cases h0 : a0.size ≤ 1048576
  rotate_left
  · clear w0
    go_enter Try.func4, Try.ntmps4
    go_wp2_with fail
    go_ret
    exact ⟨rfl, Below.refl _ _⟩
  have HS := Lib.hid (fun W : World => dis_spec a0 W w0)
  have HI := Lib.hid (fun W : World => dis_impl a0 W w0)
  clear w0
  generalize hx0 : disA a0.data.toList = x0 at HS HI
  clear hx0
  generalize hx1 : isB a0.data.toList = x1 at HS HI
  clear hx1
  cases x1
  all_goals
    have e0 : (x0 != x0) = false := by simp
    go_enter Try.func4, Try.ntmps4
    go_wp2_with fail
    refine (HS.out _).mono ?_; rintro e u1 ⟨rfl, hb1⟩
    have B1 := Lib.hid hb1
    clear hb1
    go_wp2_with fail
    refine (HI.out _).mono ?_; rintro e u2 ⟨rfl, hb2⟩
    have B2 := Lib.hid (B1.out.trans (hb2.mono B1.out.size))
    clear hb2
    go_wp2_with fail
    go_ret
    exact ⟨rfl, B2.out⟩
end Go.Proofs.Ytnlnoookpcplgaa
