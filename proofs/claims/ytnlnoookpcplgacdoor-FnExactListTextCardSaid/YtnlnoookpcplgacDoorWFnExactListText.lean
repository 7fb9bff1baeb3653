/- The walk of the law FnExactListText. -/
import Derived.Test.YtnlnoookpcplgacDoorLts
import Derived.Test.YtnlnoookpcplgacDoorLti
namespace Go.Proofs.YtnlnoookpcplgacDoor
open Go Go.RowKit
set_option linter.unusedVariables false

set_option maxHeartbeats 1600000 in
set_option maxRecDepth 100000 in
theorem law_FnExactListText (v0 : Value) (l0 : List Int) (k0 : ∀ n ∈ l0, (Lit.int .i64 n).wf = true) (w : World) (r0 : Rd w v0 l0) (htab : Lib.TabIs Tryd.prog w "internal/strconv.uint64pow10" .u64 Lib.pow10Tab) :
    Calls Tryd.prog 4 #[v0] w fun e w' => e = .returned (.bool true) ∧ Below w.heap.size w w' := by
  have t0 : l0.length ≤ 9223372036854775807 := by have := r0.len; unfold maxLen at this; exact this
  have HD := Lib.hid r0
  have HTB := Lib.hid htab
  obtain ⟨A0, n0, c0, rfl, hn0, -, -, -⟩ := r0
  rw [hn0] at t0
  clear htab k0
  by_cases h0 : n0 ≤ 1048576
  rotate_left
  · go_enter Tryd.func4, Tryd.ntmps4
    go_wp2_with fail
    go_ret
    exact ⟨rfl, Below.refl _ _⟩
  have g0 : l0.length ≤ 1048576 := by rw [hn0]; exact h0
  have HS := Lib.hid (fun W x h => listText_spec W x l0 h)
  have HI := Lib.hid (fun W x h ht => listText_impl W x l0 h ht)
  have HC := Lib.hid (fun W x h => toInt64S_any W x l0 h (by omega))
  clear hn0 g0
  generalize ltV l0 = V at HS HI
  generalize ltOk l0 = z at HS HI
  cases z
  all_goals
    go_enter Tryd.func4, Tryd.ntmps4
    go_wp2_with fail
    refine (HC.out _ _ HD.out).mono ?_; rintro e u1 ⟨y1, rfl, o1, hb1⟩
    have B1 := Lib.hid hb1
    have Y1 := Lib.hid o1.rd
    clear hb1 o1
    go_wp2_with fail
    refine (HS.out _ _ Y1.out).mono ?_; rintro e u2 ⟨rfl, hb2⟩
    have B2 := Lib.hid (B1.out.trans (hb2.mono B1.out.size))
    clear hb2 Y1
    go_wp2_with fail
    refine (HC.out _ _ (HD.out.keep B2.out)).mono ?_; rintro e u3 ⟨x3, rfl, o3, hb3⟩
    have B3 := Lib.hid (B2.out.trans (hb3.mono B2.out.size))
    have X3 := Lib.hid o3.rd
    clear hb3 o3
    go_wp2_with fail
    refine (HI.out _ _ X3.out (Lib.tabBelow_of_tabIs HTB.out _ B3.out)).mono ?_; rintro e u4 ⟨rfl, hb4⟩
    have B4 := Lib.hid (B3.out.trans (hb4.mono B3.out.size))
    have X4 := Lib.hid (X3.out.keep hb4)
    clear hb4
    go_wp2_with fail
    refine (HC.out _ _ (HD.out.keep B4.out)).mono ?_; rintro e u5 ⟨z5, rfl, o5, hb5⟩
    have B5 := Lib.hid (B4.out.trans (hb5.mono B4.out.size))
    have X5 := Lib.hid (X4.out.keep hb5)
    have Z5 := Lib.hid o5.rd
    clear hb5 o5
    go_wp2_with fail
    refine (eqInt64S_rd _ _ _ l0 X5.out Z5.out).mono ?_; rintro e u6 ⟨rfl, q6, rfl⟩
    go_wp2_with fail
    go_ret
    exact ⟨rfl, B5.out.trans ⟨rfl, rfl, rfl, Nat.le_refl _, fun _ _ => rfl⟩⟩
end Go.Proofs.YtnlnoookpcplgacDoor
