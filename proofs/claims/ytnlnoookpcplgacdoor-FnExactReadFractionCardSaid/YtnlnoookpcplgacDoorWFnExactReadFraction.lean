/- The walk of the law FnExactReadFraction. -/
import Derived.Test.YtnlnoookpcplgacDoorRfs
import Derived.Test.YtnlnoookpcplgacDoorRfi
namespace Go.Proofs.YtnlnoookpcplgacDoor
open Go Go.RowKit
set_option linter.unusedVariables false

theorem readFraction_spec (s : ByteArray) (hs : s.size ≤ 1048576) (w : World) :
    Calls Tryd.prog 6 #[.string s] w fun e w' => e = .returned (.tuple #[.agg #[.int .i64 (FR s.data.toList).1, .int .i64 (FR s.data.toList).2.1], .bool (FR s.data.toList).2.2]) ∧ Below w.heap.size w w' := by
  have H := Lib.hid (fun W => fread_spec s hs W)
  generalize FR s.data.toList = R at *
  obtain ⟨n, d, ok⟩ := R
  have BB : Hid (Below w.heap.size w (w.alloc (.cells #[.int .i64 0, .int .i64 0] 23))) := (Below.refl _ _).alloc (Nat.le_refl _) _
  have R0 := Lib.hid (Bk.new w [.int .i64 0, .int .i64 0] 23 w.heap.size rfl)
  go_enter Tryd.func6, Tryd.ntmps6
  go_wp2_with fail
  refine (H.out _).mono ?_; rintro e w1 ⟨rfl, hb⟩
  have R1 := Lib.hid (R0.out.keep hb)
  have B1 := Lib.hid (BB.out.trans (hb.mono BB.out.size))
  clear hb
  have q0 := R1.out.c 0 _ rfl
  have q1 := R1.out.c 1 _ rfl
  have q2 := R1.out.f 0 (by show 0 < 2; omega)
  have q3 := R1.out.f 1 (by show 1 < 2; omega)
  go_wp2_with fail
  refine bodyPost_ret (v := .tuple #[.agg #[.int .i64 n, .int .i64 d], .bool ok]) (by simp [results, Tryd.results6, go_sem, q0, q1]) rfl ⟨rfl, ?_⟩
  exact (B1.out.setCell (by simp) _).setCell (by simp) _

set_option maxRecDepth 100000 in
theorem law_FnExactReadFraction (s : ByteArray) (hs : s.size ≤ maxLen) (w : World) (m : Int) (hm : w.cell? ⟨0, 0, none⟩ = some (.int .i64 m)) (hv : Vars w) :
    Calls Tryd.prog 3 #[.string s] w fun e w' => e = .returned (.bool true) ∧ Below w.heap.size w w' := by
  have s2 : s.size ≤ 9223372036854775807 := by unfold maxLen at hs; exact hs
  by_cases h2 : s.size ≤ 1048576
  rotate_left
  · clear hv hs hm
    go_enter Tryd.func3, Tryd.ntmps3
    go_wp2_with fail
    go_ret
    exact ⟨rfl, Below.refl _ _⟩
  have HS := Lib.hid (fun W => readFraction_spec s h2 W)
  have HI := Lib.hid (fun W h h' => fread_impl s h2 m W h h')
  have HV := Lib.hid hv
  have HM := Lib.hid hm
  have HM0 := Lib.hid (World.block_lt_of_cell? w _ hm)
  clear hv hs hm
  generalize FR s.data.toList = R at *
  obtain ⟨n, d, ok⟩ := R
  simp only at HS HI
  cases ok
  all_goals
    go_enter Tryd.func3, Tryd.ntmps3
    go_wp2_with fail
    refine (HS.out _).mono ?_; rintro e w1 ⟨rfl, hb1⟩
    have B1 : Hid (Below w.heap.size w (w1.alloc (.cells #[.int .i64 n, .int .i64 d] 23))) := hb1.alloc hb1.size _
    have X1 := Lib.hid (box_new w1 (.int .i64 n) (.int .i64 d) 23)
    clear hb1
    go_wp2_with fail
    refine (HI.out _ ((B1.out.cell HM0.out).trans HM.out) (HV.out.keep B1.out)).mono ?_; rintro e w2 ⟨rfl, hb2⟩
    have B2 : Hid (Below w.heap.size w (w2.alloc (.cells #[.int .i64 n, .int .i64 d] 23))) := (B1.out.trans (hb2.mono B1.out.size)).alloc (B1.out.trans (hb2.mono B1.out.size)).size _
    have X2 := box_alloc (box_keep X1.out hb2) (.cells #[.int .i64 n, .int .i64 d] 23)
    obtain ⟨q0, q1, -⟩ := X2
    clear hb2
    go_wp2_with fail
    refine (eqFraction_yes _ _ _).mono ?_; rintro e w3 ⟨rfl, hb3⟩
    have B3 := Lib.hid (B2.out.trans (hb3.mono B2.out.size))
    clear hb3 q0 q1
    go_wp2_with fail
    go_ret
    exact ⟨rfl, B3.out⟩
end Go.Proofs.YtnlnoookpcplgacDoor
