/- What a level is read as, kind by kind: the program's methods. -/
import Derived.Test.YtmhdjimdhcephaaLvB
namespace Go.Proofs.Ytmhdjimdhcephaa
open Go Go.RowKit
set_option linter.unusedVariables false

/-- Are the levels of a bit, with the level a before them, read as a bit 1? -/
def oneK (κ : Nat) (ls : List Int) (a : Int) : Bool :=
  if κ = 0 then ls.getD 0 0 == 1 else if κ = 1 then ls.getD 0 0 != a else if κ = 2 then decide (ls.getD 0 0 < ls.getD 1 0) else if κ = 3 then ls.getD 0 0 == a else if κ = 4 then ls.getD 0 0 != 0 else ls.getD 0 0 != a
def OneOf (F : FuncId) (κ : Nat) : Prop := ∀ (a m : Int) (v : Value) (ls : List Int) (w : World), Rd w v ls → ls.length = wdK κ → Calls Try.prog F #[.agg #[], v, .agg #[.int .i64 a, .int .i64 m]] w fun e w' => e = .returned (.bool (oneK κ ls a)) ∧ Below w.heap.size w w'
theorem rd1 {w : World} {v : Value} {ls : List Int} (h : Rd w v ls) (hl : ls.length = 1) : ∃ x b o c, ls = [x] ∧ v = .slice (some ⟨b, o, none⟩) 1 c ∧ b < w.heap.size ∧ w.cell? ⟨b, o, none⟩ = some (.int .i64 x) := by
  obtain ⟨x, rfl⟩ := List.length_eq_one_iff.1 hl
  obtain ⟨A, n, c, rfl, hn, -, -, r⟩ := h
  simp at hn
  subst hn
  obtain ⟨b, o, rfl, hlt, hc⟩ := r (by decide)
  exact ⟨x, b, o, c, rfl, rfl, hlt, by have := hc 0 (by simp); simpa using this⟩
theorem rd2 {w : World} {v : Value} {ls : List Int} (h : Rd w v ls) (hl : ls.length = 2) : ∃ x y b o c, ls = [x, y] ∧ v = .slice (some ⟨b, o, none⟩) 2 c ∧ b < w.heap.size ∧ w.cell? ⟨b, o, none⟩ = some (.int .i64 x) ∧ w.cell? ⟨b, o + 1, none⟩ = some (.int .i64 y) := by
  obtain ⟨x, y, rfl⟩ : ∃ x y, ls = [x, y] := by
    match ls, hl with
    | [x, y], _ => exact ⟨x, y, rfl⟩
  obtain ⟨A, n, c, rfl, hn, -, -, r⟩ := h
  simp at hn
  subst hn
  obtain ⟨b, o, rfl, hlt, hc⟩ := r (by decide)
  exact ⟨x, y, b, o, c, rfl, rfl, hlt, by have := hc 0 (by simp); simpa using this, by have := hc 1 (by simp); simpa using this⟩
set_option maxRecDepth 100000 in
theorem straight_one : OneOf 180 0 := by
  intro a m v ls w hr hl
  obtain ⟨x0, x1, x2, x4, x3⟩ := lvw_at 111 w a m
  obtain ⟨x, b, o, c, rfl, rfl, hlt, hc0⟩ := rd1 hr (by rw [hl]; rfl)
  have d0 := (x3.cell (p := ⟨b, o, none⟩) hlt).trans hc0
  skip
  have X3 := Lib.hid x3
  obtain ⟨W1, hW1⟩ : ∃ W1, W1 = LvW 111 w a m := ⟨_, rfl⟩
  rw [← hW1] at x0 x1 X3 d0
  unfold LvW at hW1
  have HW1 := Lib.hid hW1
  have e : oneK 0 [x] a = (x == 1) := rfl
  rw [e]
  clear hW1 x2 x3 x4 e hr hl hlt hc0
  go_enter Try.func180, Try.ntmps180
  go_wp2_with (rw [← HW1.out])
  go_ret
  first | exact ⟨rfl, X3.out⟩ | (rw [← HW1.out]; exact ⟨rfl, X3.out⟩)
set_option maxRecDepth 100000 in
theorem change_one : OneOf 183 1 := by
  intro a m v ls w hr hl
  obtain ⟨x0, x1, x2, x4, x3⟩ := lvw_at 112 w a m
  obtain ⟨x, b, o, c, rfl, rfl, hlt, hc0⟩ := rd1 hr (by rw [hl]; rfl)
  have d0 := (x3.cell (p := ⟨b, o, none⟩) hlt).trans hc0
  skip
  have X3 := Lib.hid x3
  obtain ⟨W1, hW1⟩ : ∃ W1, W1 = LvW 112 w a m := ⟨_, rfl⟩
  rw [← hW1] at x0 x1 X3 d0
  unfold LvW at hW1
  have HW1 := Lib.hid hW1
  have e : oneK 1 [x] a = (x != a) := rfl
  rw [e]
  clear hW1 x2 x3 x4 e hr hl hlt hc0
  go_enter Try.func183, Try.ntmps183
  go_wp2_with fail
  rw [← HW1.out]
  go_quiet (fail)
  go_wp2_with fail
  go_ret
  exact ⟨rfl, below_drewN X3.out _⟩
set_option maxRecDepth 100000 in
theorem halves_one : OneOf 185 2 := by
  intro a m v ls w hr hl
  obtain ⟨x0, x1, x2, x4, x3⟩ := lvw_at 113 w a m
  obtain ⟨x, y, b, o, c, rfl, rfl, hlt, hc0, hc1⟩ := rd2 hr (by rw [hl]; rfl)
  have d0 := (x3.cell (p := ⟨b, o, none⟩) hlt).trans hc0
  have d1 := (x3.cell (p := ⟨b, o + 1, none⟩) hlt).trans hc1
  have X3 := Lib.hid x3
  obtain ⟨W1, hW1⟩ : ∃ W1, W1 = LvW 113 w a m := ⟨_, rfl⟩
  rw [← hW1] at x0 x1 X3 d0 d1
  unfold LvW at hW1
  have HW1 := Lib.hid hW1
  have e : oneK 2 [x, y] a = decide (x < y) := rfl
  rw [e]
  clear hW1 x2 x3 x4 e hr hl hlt hc0 hc1
  go_enter Try.func185, Try.ntmps185
  go_wp2_with fail
  rw [← HW1.out]
  go_quiet (fail)
  go_wp2_with fail
  go_ret
  exact ⟨rfl, below_drewN X3.out _⟩
set_option maxRecDepth 100000 in
theorem halfwise_one : OneOf 187 3 := by
  intro a m v ls w hr hl
  obtain ⟨x0, x1, x2, x4, x3⟩ := lvw_at 114 w a m
  obtain ⟨x, y, b, o, c, rfl, rfl, hlt, hc0, hc1⟩ := rd2 hr (by rw [hl]; rfl)
  have d0 := (x3.cell (p := ⟨b, o, none⟩) hlt).trans hc0
  have d1 := (x3.cell (p := ⟨b, o + 1, none⟩) hlt).trans hc1
  have X3 := Lib.hid x3
  obtain ⟨W1, hW1⟩ : ∃ W1, W1 = LvW 114 w a m := ⟨_, rfl⟩
  rw [← hW1] at x0 x1 X3 d0 d1
  unfold LvW at hW1
  have HW1 := Lib.hid hW1
  have e : oneK 3 [x, y] a = (x == a) := rfl
  rw [e]
  clear hW1 x2 x3 x4 e hr hl hlt hc0 hc1
  go_enter Try.func187, Try.ntmps187
  go_wp2_with fail
  rw [← HW1.out]
  go_quiet (fail)
  go_wp2_with fail
  go_ret
  exact ⟨rfl, below_drewN X3.out _⟩
set_option maxRecDepth 100000 in
theorem alternate_one : OneOf 189 4 := by
  intro a m v ls w hr hl
  obtain ⟨x0, x1, x2, x4, x3⟩ := lvw_at 115 w a m
  obtain ⟨x, b, o, c, rfl, rfl, hlt, hc0⟩ := rd1 hr (by rw [hl]; rfl)
  have d0 := (x3.cell (p := ⟨b, o, none⟩) hlt).trans hc0
  skip
  have X3 := Lib.hid x3
  obtain ⟨W1, hW1⟩ : ∃ W1, W1 = LvW 115 w a m := ⟨_, rfl⟩
  rw [← hW1] at x0 x1 X3 d0
  unfold LvW at hW1
  have HW1 := Lib.hid hW1
  have e : oneK 4 [x] a = (x != 0) := rfl
  rw [e]
  clear hW1 x2 x3 x4 e hr hl hlt hc0
  go_enter Try.func189, Try.ntmps189
  go_wp2_with (rw [← HW1.out])
  go_ret
  first | exact ⟨rfl, X3.out⟩ | (rw [← HW1.out]; exact ⟨rfl, X3.out⟩)
set_option maxRecDepth 100000 in
theorem three_one : OneOf 191 5 := by
  intro a m v ls w hr hl
  obtain ⟨x0, x1, x2, x4, x3⟩ := lvw_at 116 w a m
  obtain ⟨x, b, o, c, rfl, rfl, hlt, hc0⟩ := rd1 hr (by rw [hl]; rfl)
  have d0 := (x3.cell (p := ⟨b, o, none⟩) hlt).trans hc0
  skip
  have X3 := Lib.hid x3
  obtain ⟨W1, hW1⟩ : ∃ W1, W1 = LvW 116 w a m := ⟨_, rfl⟩
  rw [← hW1] at x0 x1 X3 d0
  unfold LvW at hW1
  have HW1 := Lib.hid hW1
  have e : oneK 5 [x] a = (x != a) := rfl
  rw [e]
  clear hW1 x2 x3 x4 e hr hl hlt hc0
  go_enter Try.func191, Try.ntmps191
  go_wp2_with fail
  rw [← HW1.out]
  go_quiet (fail)
  go_wp2_with fail
  go_ret
  exact ⟨rfl, below_drewN X3.out _⟩
def kOF (κ : Nat) : FuncId := if κ = 0 then 180 else if κ = 1 then 183 else if κ = 2 then 185 else if κ = 3 then 187 else if κ = 4 then 189 else 191
theorem kO_look {κ : Nat} (h : κ ≤ 5) (W : World) : (Go.method 290 (kT κ) (.agg #[]) "loop.example/g01142/impl.isOne").run Try.prog W = .ok (kOF κ, .agg #[]) W := by
  rcases six h with rfl | rfl | rfl | rfl | rfl | rfl <;> kernel_rfl
theorem kO_enter {κ : Nat} (h : κ ≤ 5) (args : Array Value) (W : World) : (callFunc (kOF κ) args).run Try.prog W = .ok (.enter (kOF κ) args) W := by
  rcases six h with rfl | rfl | rfl | rfl | rfl | rfl <;> first | kernel_rfl | rfl
theorem kO_of {κ : Nat} (h : κ ≤ 5) : OneOf (kOF κ) κ := by
  rcases six h with rfl | rfl | rfl | rfl | rfl | rfl
  · exact straight_one
  · exact change_one
  · exact halves_one
  · exact halfwise_one
  · exact alternate_one
  · exact three_one
end Go.Proofs.Ytmhdjimdhcephaa
