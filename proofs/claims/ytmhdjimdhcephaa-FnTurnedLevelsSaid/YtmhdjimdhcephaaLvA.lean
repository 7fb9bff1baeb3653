/- The levels of a bit, kind by kind: the program's methods, and which one an interface's call finds. -/
import Derived.Test.YtmhdjimdhcephaaLvQ
import Derived.Test.YtmhdjimdhcephaaLvJ
import Derived.Handy
namespace Go.Proofs.Ytmhdjimdhcephaa
open Go Go.RowKit
set_option linter.unusedVariables false

theorem signOfBit_any (b : Int) (w : World) :
    Calls Try.prog 182 #[.int .u8 b] w fun e w' => e = .returned (.int .i64 (sg (b == 49))) ∧ w = w' := by
  cases h : (b == 49)
  all_goals
    go_enter Try.func182, Try.ntmps182
    go_wp2_with fail
    go_ret
    exact ⟨rfl, rfl⟩
theorem own_one (w W : World) (x : Int) (hw : w.heap.size ≤ W.heap.size) : Own (W.alloc (.cells #[.int .i64 x] 2)) w.heap.size (.slice (some ⟨W.heap.size, 0, none⟩) 1 1) [x] := by
  have := World.ownsRow_lit (base := w.heap.size) (e := 2) (size := 1) W #[.int .i64 x] 1 hw (by decide) rfl
  simpa [Own, intVals] using this
theorem own_two (w W : World) (x y : Int) (hw : w.heap.size ≤ W.heap.size) : Own (W.alloc (.cells #[.int .i64 x, .int .i64 y] 2)) w.heap.size (.slice (some ⟨W.heap.size, 0, none⟩) 2 2) [x, y] := by
  have := World.ownsRow_lit (base := w.heap.size) (e := 2) (size := 1) W #[.int .i64 x, .int .i64 y] 2 hw (by decide) rfl
  simpa [Own, intVals] using this
/-- What a method that returns the levels of a bit does. -/
def LvOf (F : FuncId) (κ : Nat) : Prop := ∀ (b a m : Int) (w : World), (b = 48 ∨ b = 49) → tri a → tri m → Calls Try.prog F #[.agg #[], .int .u8 b, .agg #[.int .i64 a, .int .i64 m]] w fun e w' => ∃ u, e = .returned u ∧ Own w' w.heap.size u (lsK κ (b == 49) a m) ∧ Below w.heap.size w w'
theorem own_oneg (w W : World) (x : Int) (hw : w.heap.size ≤ W.heap.size) {g : Nat} (h : W.heap.size = g) : Own (W.alloc (.cells #[.int .i64 x] 2)) w.heap.size (.slice (some ⟨g, 0, none⟩) 1 1) [x] := by
  subst h; exact own_one w W x hw
/-- The world of such a method: the receiver's box and that of the wire's end. -/
def LvW (T : TypeId) (w : World) (a m : Int) : World := (w.alloc (.cells #[] T)).alloc (.cells #[.int .i64 a, .int .i64 m] 58)
theorem lvw_at (T : TypeId) (w : World) (a m : Int) : (LvW T w a m).cell? ⟨w.heap.size + 1, 0, none⟩ = some (.int .i64 a) ∧ (LvW T w a m).cell? ⟨w.heap.size + 1, 1, none⟩ = some (.int .i64 m) ∧ w.heap.size ≤ (LvW T w a m).heap.size ∧ (LvW T w a m).heap.size = w.heap.size + 1 + 1 ∧ Below w.heap.size w (LvW T w a m) :=
  have h := Bk.new (w.alloc (.cells #[] T)) [.int .i64 a, .int .i64 m] 58 (w.heap.size + 1) (by simp)
  ⟨h.c 0 _ rfl, h.c 1 _ rfl, by unfold LvW; simp; omega, by unfold LvW; simp, ((Below.refl _ _).alloc (Nat.le_refl _) _).alloc (by simp) _⟩
set_option maxRecDepth 100000 in
theorem straight_of : LvOf 181 0 := by
  intro b a m w hbit ha hm
  obtain ⟨x0, x1, x2, x4, x3⟩ := lvw_at 111 w a m
  have X2 := Lib.hid x2
  have X3 := Lib.hid x3
  have X4 := Lib.hid x4
  obtain ⟨W1, hW1⟩ : ∃ W1, W1 = LvW 111 w a m := ⟨_, rfl⟩
  rw [← hW1] at x0 x1 X2 X3 X4
  unfold LvW at hW1
  have HW1 := Lib.hid hW1
  clear hW1 x2 x3 x4
  have HS := Lib.hid (fun W => signOfBit_any b W)
  have e : lsK 0 (b == 49) a m = [sg (b == 49)] := rfl
  rw [e]
  generalize sg (b == 49) = s at *
  clear e ha hm x0 x1
  go_enter Try.func181, Try.ntmps181
  go_wp2_with fail
  rw [← HW1.out]
  refine (HS.out _).mono ?_; rintro e w' ⟨rfl, rfl⟩
  go_wp2_with fail
  go_ret
  exact ⟨_, rfl, own_one _ _ _ X2.out, X3.out.alloc X2.out _⟩
set_option maxRecDepth 100000 in
theorem change_of : LvOf 184 1 := by
  intro b a m w hbit ha hm
  obtain ⟨x0, x1, x2, x4, x3⟩ := lvw_at 112 w a m
  have X2 := Lib.hid x2
  have X3 := Lib.hid x3
  have X4 := Lib.hid x4
  obtain ⟨W1, hW1⟩ : ∃ W1, W1 = LvW 112 w a m := ⟨_, rfl⟩
  rw [← hW1] at x0 x1 X2 X3 X4
  unfold LvW at hW1
  have HW1 := Lib.hid hW1
  clear hW1 x2 x3 x4
  have HS := Lib.hid (fun W => signOfBit_any b W)
  have e : lsK 1 (b == 49) a m = [-sg (b == 49) * a] := rfl
  rw [e]
  have h1 := tri_bd (tri_sg (b == 49))
  have h2 := tri_bd (tri_mul (tri_neg (tri_sg (b == 49))) ha)
  generalize sg (b == 49) = s at *
  have w1 : IntKind.i64.wrap (-s) = -s := IntWalk.i64_in _ (by omega)
  have w2 : IntKind.i64.wrap (-s * a) = -s * a := IntWalk.i64_in _ (by omega)
  have w3 : IntKind.i64.wrap (-(s * a)) = -s * a := by rw [← Int.neg_mul]; exact w2
  clear e ha hm x1 h1 h2
  go_enter Try.func184, Try.ntmps184
  go_wp2_with fail
  rw [← HW1.out]
  try go_wp2_with fail
  go_region_with (go_at_call 182; refine (HS.out _).mono ?_; rintro e w2 ⟨rfl, rfl⟩)
  all_goals
    go_wp2_with fail
    go_ret
    first
      | exact ⟨_, rfl, own_one _ _ _ X2.out, X3.out.drew.alloc X2.out _⟩
      | (rw [show -s * a = -(s * a) from Int.neg_mul s a]; exact ⟨_, rfl, own_one _ _ _ X2.out, X3.out.drew.alloc X2.out _⟩)
set_option maxRecDepth 100000 in
theorem halves_of : LvOf 186 2 := by
  intro b a m w hbit ha hm
  obtain ⟨x0, x1, x2, x4, x3⟩ := lvw_at 113 w a m
  have X2 := Lib.hid x2
  have X3 := Lib.hid x3
  have X4 := Lib.hid x4
  obtain ⟨W1, hW1⟩ : ∃ W1, W1 = LvW 113 w a m := ⟨_, rfl⟩
  rw [← hW1] at x0 x1 X2 X3 X4
  unfold LvW at hW1
  have HW1 := Lib.hid hW1
  clear hW1 x2 x3 x4
  have HS := Lib.hid (fun W => signOfBit_any b W)
  have e : lsK 2 (b == 49) a m = [-sg (b == 49), sg (b == 49)] := rfl
  rw [e]
  have h1 := tri_bd (tri_sg (b == 49))
  generalize sg (b == 49) = s at *
  have w1 : IntKind.i64.wrap (-s) = -s := IntWalk.i64_in _ (by omega)
  clear e ha hm x0 x1 h1
  go_enter Try.func186, Try.ntmps186
  go_wp2_with fail
  rw [← HW1.out]
  refine (HS.out _).mono ?_; rintro e w' ⟨rfl, rfl⟩
  go_wp2_with fail
  go_ret
  exact ⟨_, rfl, own_two _ _ _ _ X2.out, X3.out.alloc X2.out _⟩
set_option maxRecDepth 100000 in
theorem halfwise_of : LvOf 188 3 := by
  intro b a m w hbit ha hm
  obtain ⟨x0, x1, x2, x4, x3⟩ := lvw_at 114 w a m
  have X2 := Lib.hid x2
  have X3 := Lib.hid x3
  have X4 := Lib.hid x4
  obtain ⟨W1, hW1⟩ : ∃ W1, W1 = LvW 114 w a m := ⟨_, rfl⟩
  rw [← hW1] at x0 x1 X2 X3 X4
  unfold LvW at hW1
  have HW1 := Lib.hid hW1
  clear hW1 x2 x3 x4
  have HS := Lib.hid (fun W => signOfBit_any b W)
  have e : lsK 3 (b == 49) a m = [sg (b == 49) * a, -(sg (b == 49) * a)] := rfl
  rw [e]
  have h2 := tri_bd (tri_mul (tri_sg (b == 49)) ha)
  generalize sg (b == 49) = s at *
  have w1 : IntKind.i64.wrap (s * a) = s * a := IntWalk.i64_in _ (by omega)
  have w2 : IntKind.i64.wrap (-(s * a)) = -(s * a) := IntWalk.i64_in _ (by omega)
  clear e ha hm x1 h2
  go_enter Try.func188, Try.ntmps188
  go_wp2_with fail
  rw [← HW1.out]
  try go_wp2_with fail
  go_quiet ((go_at_call 182; exact Calls.quiet_of_same ((HS.out _).mono fun _ _ h => ⟨h.1, h.2.symm⟩)))
  go_wp2_with fail
  go_ret
  exact ⟨_, rfl, own_two _ _ _ _ X2.out, (below_drewN X3.out _).alloc X2.out _⟩
set_option maxRecDepth 100000 in
theorem alternate_of : LvOf 190 4 := by
  intro b a m w hbit ha hm
  obtain ⟨x0, x1, x2, x4, x3⟩ := lvw_at 115 w a m
  have X2 := Lib.hid x2
  have X3 := Lib.hid x3
  have X4 := Lib.hid x4
  obtain ⟨W1, hW1⟩ : ∃ W1, W1 = LvW 115 w a m := ⟨_, rfl⟩
  rw [← hW1] at x0 x1 X2 X3 X4
  unfold LvW at hW1
  have HW1 := Lib.hid hW1
  clear hW1 x2 x3 x4
  have h2 := tri_bd hm
  have w1 : IntKind.i64.wrap (-m) = -m := IntWalk.i64_in _ (by omega)
  clear ha hm x0 h2
  rcases hbit with rfl | rfl
  · have e : lsK 4 ((48 : Int) == 49) a m = [0] := rfl
    rw [e]
    clear e x1 w1
    go_enter Try.func190, Try.ntmps190
    go_wp2_with fail
    try go_wp2_with fail
    rw [← HW1.out]
    go_ret
    exact ⟨_, rfl, (by first | exact own_one _ _ _ X2.out | exact own_oneg _ _ _ X2.out X4.out), X3.out.alloc X2.out _⟩
  · have e : lsK 4 ((49 : Int) == 49) a m = [-m] := rfl
    rw [e]
    clear e
    go_enter Try.func190, Try.ntmps190
    go_wp2_with fail
    rw [← HW1.out]
    try go_wp2_with fail
    go_ret
    exact ⟨_, rfl, (by first | exact own_one _ _ _ X2.out | exact own_oneg _ _ _ X2.out X4.out), X3.out.alloc X2.out _⟩
set_option maxRecDepth 100000 in
theorem three_of : LvOf 192 5 := by
  intro b a m w hbit ha hm
  obtain ⟨x0, x1, x2, x4, x3⟩ := lvw_at 116 w a m
  have X2 := Lib.hid x2
  have X3 := Lib.hid x3
  have X4 := Lib.hid x4
  obtain ⟨W1, hW1⟩ : ∃ W1, W1 = LvW 116 w a m := ⟨_, rfl⟩
  rw [← hW1] at x0 x1 X2 X3 X4
  unfold LvW at hW1
  have HW1 := Lib.hid hW1
  clear hW1 x2 x3 x4
  have h2 := tri_bd hm
  have w1 : IntKind.i64.wrap (-m) = -m := IntWalk.i64_in _ (by omega)
  clear ha hm h2
  rcases hbit with rfl | rfl
  · have e : lsK 5 ((48 : Int) == 49) a m = [a] := rfl
    rw [e]
    clear e x1 w1
    go_enter Try.func192, Try.ntmps192
    go_wp2_with fail
    rw [← HW1.out]
    try go_wp2_with fail
    go_ret
    exact ⟨_, rfl, (by first | exact own_one _ _ _ X2.out | exact own_oneg _ _ _ X2.out X4.out), X3.out.alloc X2.out _⟩
  · by_cases h0 : a = 0
    · have e : lsK 5 ((49 : Int) == 49) a m = [-m] := by rw [h0]; rfl
      rw [e]
      have z : (a != 0) = false := bne_f h0
      clear e h0
      go_enter Try.func192, Try.ntmps192
      go_wp2_with fail
      rw [← HW1.out]
      try go_wp2_with fail
      go_ret
      exact ⟨_, rfl, (by first | exact own_one _ _ _ X2.out | exact own_oneg _ _ _ X2.out X4.out), X3.out.alloc X2.out _⟩
    · have e : lsK 5 ((49 : Int) == 49) a m = [0] := by show (if a = 0 then [-m] else [0]) = _; rw [if_neg h0]
      rw [e]
      have z : (a != 0) = true := bne_t h0
      clear e h0 x1 w1
      go_enter Try.func192, Try.ntmps192
      go_wp2_with fail
      rw [← HW1.out]
      try go_wp2_with fail
      go_ret
      exact ⟨_, rfl, (by first | exact own_one _ _ _ X2.out | exact own_oneg _ _ _ X2.out X4.out), X3.out.alloc X2.out _⟩
end Go.Proofs.Ytmhdjimdhcephaa
