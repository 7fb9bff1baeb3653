/- The walk of the law FnExactWrongBehind. -/
import Derived.Test.YtmhdjimdhcephaaLvY
namespace Go.Proofs.Ytmhdjimdhcephaa
open Go Go.RowKit
set_option linter.unusedVariables false

set_option maxHeartbeats 1600000 in
set_option maxRecDepth 100000 in
theorem law_FnExactWrongBehind (a0 : Int) (w0 : (Lit.int .i64 a0).wf = true) (a1 : ByteArray) (w1 : a1.size ≤ maxLen) (a2 : Int) (w2 : (Lit.int .i64 a2).wf = true) (a3 : Int) (w3 : (Lit.int .i64 a3).wf = true) (w : World)  :
    Calls Try.prog 11 #[.int .i64 a0, .string a1, .int .i64 a2, .int .i64 a3] w fun e w' => e = .returned (.bool true) ∧ Below w.heap.size w w' := by
  have s1 : a1.size ≤ 9223372036854775807 := by have := w1; unfold maxLen at this; exact this
  by_cases h1 : a1.size ≤ 1048576
  rotate_left
  · clear w0 w1 w2 w3
    go_enter Try.func11, Try.ntmps11
    go_wp2_with fail
    go_ret
    exact ⟨rfl, Below.refl _ _⟩
  have HS := Lib.hid (fun (W : World) => wrong_spec a0 a1 a2 a3 W w1)
  have HI := Lib.hid (fun (W : World) => wrong_impl a0 a1 a2 a3 W w1)
  clear w0 w1 w2 w3
  generalize hz0 : wbV a0 a1.data.toList a2 a3 = y0 at HS HI
  clear hz0
  generalize hz1 : wbOk a0 a1.data.toList a2 a3 = y1 at HS HI
  clear hz1
  cases y1
  all_goals
    have e0 : (y0 != y0) = false := by simp
    go_enter Try.func11, Try.ntmps11
    have B0 := Lib.hid (Below.refl w.heap.size w)
    go_wp2_with fail
    refine (HS.out _).mono ?_; rintro e u1 ⟨rfl, hb1⟩
    have B1 := Lib.hid (B0.out.trans (hb1.mono B0.out.size))
    clear hb1  B0
    go_wp2_with fail
    refine (HI.out _).mono ?_; rintro e u2 ⟨rfl, hb2⟩
    have B2 := Lib.hid (B1.out.trans (hb2.mono B1.out.size))
    clear hb2  B1
    go_wp2_with fail
    go_ret
    exact ⟨rfl, B2.out⟩
end Go.Proofs.Ytmhdjimdhcephaa
