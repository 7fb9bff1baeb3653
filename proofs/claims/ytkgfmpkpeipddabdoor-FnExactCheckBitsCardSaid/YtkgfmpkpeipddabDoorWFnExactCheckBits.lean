/- The walk of the law FnExactCheckBits. -/
import Derived.Test.YtkgfmpkpeipddabDoorCkj
import Derived.Test.YtkgfmpkpeipddabDoorErv
namespace Go.Proofs.YtkgfmpkpeipddabDoor
open Go Go.RowKit
set_option linter.unusedVariables false

set_option maxHeartbeats 1600000 in
set_option maxRecDepth 100000 in
theorem law_FnExactCheckBits (a0 : Int) (w0 : (Lit.int .i64 a0).wf = true) (a1 : ByteArray) (w1 : a1.size ≤ maxLen) (w : World) {x0 : Addr} (v0 : Ev 0 x0 w) :
    Calls Tryd.prog 3 #[.int .i64 a0, .string a1] w fun e w' => e = .returned (.bool true) ∧ Below w.heap.size w w' := by
  have s1 : a1.size ≤ 9223372036854775807 := by have := w1; unfold maxLen at this; exact this
  by_cases h1 : a1.size ≤ 1048576
  rotate_left
  · clear w0 w1 v0
    go_enter Tryd.func3, Tryd.ntmps3
    go_wp2_with fail
    go_ret
    exact ⟨rfl, Below.refl _ _⟩
  have HS := Lib.hid (fun (W : World) => checkBits_spec a0 a1 W w1)
  have HI := Lib.hid (fun (W : World) (hb : Below w.heap.size w W) => checkBits_impl a0 a1 W w1 _ (v0.keep hb))
  clear w0 w1 v0
  generalize hz0 : cbV a0 a1.data.toList = y0 at HS HI
  clear hz0
  generalize hz1 : ckOk a0 a1.data.toList = y1 at HS HI
  clear hz1
  cases y1
  all_goals
    go_enter Tryd.func3, Tryd.ntmps3
    have B0 := Lib.hid (Below.refl w.heap.size w)
    go_wp2_with fail
    refine (HS.out _).mono ?_; rintro e u1 ⟨rfl, hb1⟩
    have B1 := Lib.hid (B0.out.trans (hb1.mono B0.out.size))
    clear hb1 B0
    go_wp2_with fail
    refine (HI.out _ B1.out).mono ?_; rintro e u2 ⟨rfl, hb2⟩
    have B2 := Lib.hid (B1.out.trans (hb2.mono B1.out.size))
    clear hb2 B1
    go_wp2_with fail
    go_ret
    exact ⟨rfl, B2.out⟩
end Go.Proofs.YtkgfmpkpeipddabDoor
