/- R8Check: a check that is drawn. -/
import Derived.Test.YtnpigefbdadjfaaDoorSrc
import Derived.Test.YtnpigefbdadjfaaDoorPl
namespace Go.Proofs.YtnpigefbdadjfaaDoor
open Go Go.RowKit
set_option linter.unusedVariables false

set_option maxHeartbeats 1000000 in
set_option maxRecDepth 100000 in
theorem r8Check_any (w : World) (v : Value) (l : List Value) (h : RdV (· < w.heap.size) w v l) (hb : ∀ x ∈ l, ∃ y : Int, x = .int .u8 y ∧ 0 ≤ y ∧ y ≤ 255) :
    Calls Tryd.prog 51 #[v] w fun e w' => ∃ p : Int, e = .returned (.int .i64 p) ∧ (2 ≤ p ∧ p ≤ 127) ∧ Below w.heap.size w w' := by
  have HF := Lib.hid (src_from v l w h hb)
  clear hb
  obtain ⟨A, n, c, rfl, -⟩ := h
  go_enter Tryd.func51, Tryd.ntmps51
  go_wp2_with fail
  refine HF.out.mono ?_; rintro e w1 ⟨rfl, hs1, hb1⟩
  have B1 := Lib.hid hb1
  have S1 := Lib.hid hs1
  clear hb1 hs1
  go_wp2_with fail
  refine (src_pick _ _ _ _ _ 126 _ (by decide) (by decide) S1.out).mono ?_; rintro e w2 ⟨r, rfl, ⟨r0, r1, -⟩, hs2, hg2⟩
  have B2 := Lib.hid (gk_to B1.out hg2 B1.out.size (Nat.le_refl _))
  have r2 := r1 (by omega)
  have wr : IntKind.i64.wrap (2 + r) = 2 + r := IntWalk.i64_in _ (by omega)
  clear r1 hs2 hg2
  go_wp2_with fail
  go_ret
  exact ⟨_, rfl, by omega, B2.out⟩
end Go.Proofs.YtnpigefbdadjfaaDoor
