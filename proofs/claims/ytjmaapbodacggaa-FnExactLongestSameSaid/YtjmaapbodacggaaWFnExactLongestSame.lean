/- The walk of the law FnExactLongestSame. -/
import Derived.Test.YtjmaapbodacggaaLsm
namespace Go.Proofs.Ytjmaapbodacggaa
open Go Go.RowKit
set_option linter.unusedVariables false

set_option maxHeartbeats 1600000 in
set_option maxRecDepth 100000 in
theorem law_FnExactLongestSame (a0 : ByteArray) (w0 : a0.size ≤ maxLen) (w : World)  :
    Calls Try.prog 4 #[.string a0] w fun e w' => e = .returned (.bool true) ∧ Below w.heap.size w w' := by
  have s0 : a0.size ≤ 9223372036854775807 := by have := w0; unfold maxLen at this; exact this
  by_cases h0 : a0.size ≤ 1048576
  rotate_left
  · clear w0
    go_enter Try.func4, Try.ntmps4
    go_wp2_with fail
    go_ret
    exact ⟨rfl, Below.refl _ _⟩
  have HS := Lib.hid (fun (W : World) => longest_spec W a0 w0)
  have HI := Lib.hid (fun (W : World) => longest_impl W a0 w0)
  clear w0
  generalize hz0 : lsV a0.data.toList = y0 at HS HI
  clear hz0
  generalize hz1 : isB a0.data.toList = y1 at HS HI
  clear hz1
  cases y1
  all_goals
    have e0 : (y0 != y0) = false := by simp
    go_enter Try.func4, Try.ntmps4
    have B0 := Lib.hid (Below.refl w.heap.size w)
    go_wp2_with fail
    refine (HS.out _).mono ?_; rintro e u1 ⟨rfl, hb1⟩
    have B1 := Lib.hid (B0.out.trans (hb1.mono B0.out.size))
    clear hb1  B0
    go_wp2_with fail
    refine (HI.out _).mono ?_; rintro e u2 ⟨rfl, hb2⟩
    have B2 := Lib.hid (B1.out.trans (hb2.mono B1.out.size))
    clear hb2  B1
    go_wp2_with fail
    go_ret
    exact ⟨rfl, B2.out⟩
end Go.Proofs.Ytjmaapbodacggaa
