/- The walk of the law FnExactVoteBits. -/
import Derived.Test.YtcihogbkfpcfjaaVoi
namespace Go.Proofs.Ytcihogbkfpcfjaa
open Go Go.RowKit
set_option linter.unusedVariables false

set_option maxHeartbeats 1600000 in
set_option maxRecDepth 100000 in
theorem law_FnExactVoteBits (a0 : ByteArray) (w0 : a0.size ≤ maxLen) (a1 : Int) (w1 : (Lit.int .i64 a1).wf = true) (w : World)  :
    Calls Try.prog 13 #[.string a0, .int .i64 a1] w fun e w' => e = .returned (.bool true) ∧ Below w.heap.size w w' := by
  have s0 : a0.size ≤ 9223372036854775807 := by have := w0; unfold maxLen at this; exact this
  by_cases h0 : a0.size ≤ 1048576
  rotate_left
  · clear w0 w1
    go_enter Try.func13, Try.ntmps13
    go_wp2_with fail
    go_ret
    exact ⟨rfl, Below.refl _ _⟩
  have HS := Lib.hid (fun (W : World) => vote_spec a0 a1 W w0)
  have HI := Lib.hid (fun (W : World) => vote_impl a0 a1 W w0)
  clear w0 w1
  generalize hz0 : voV a0.data.toList a1 = y0 at HS HI
  clear hz0
  generalize hz1 : voOk a0.data.toList a1 = y1 at HS HI
  clear hz1
  cases y1
  all_goals
    go_enter Try.func13, Try.ntmps13
    have B0 := Lib.hid (Below.refl w.heap.size w)
    go_wp2_with fail
    refine (HS.out _).mono ?_; rintro e u1 ⟨rfl, hb1⟩
    have B1 := Lib.hid (B0.out.trans (hb1.mono B0.out.size))
    clear hb1  B0
    go_wp2_with fail
    refine (HI.out _).mono ?_; rintro e u2 ⟨rfl, hb2⟩
    have B2 := Lib.hid (B1.out.trans (hb2.mono B1.out.size))
    clear hb2  B1
    go_wp2_with fail
    go_ret
    exact ⟨rfl, B2.out⟩
end Go.Proofs.Ytcihogbkfpcfjaa
