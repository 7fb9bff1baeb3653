/- Stuffers: which are valid, the law's copy, both ValidStuffer. -/
import Derived.Test.YtddlpbpcdjddpaaPl
import Derived.Test.YtddlpbpcdjddpaaBtw
import Derived.Test.YtddlpbpcdjddpaaBk
namespace Go.Proofs.Ytddlpbpcdjddpaa
open Go Go.RowKit
set_option linter.unusedVariables false

theorem bk_two {W : World} {k : Nat} {x y : Value} (h : Bk W k [x, y]) : W.cell? ⟨k, 0, none⟩ = some x ∧ W.cell? ⟨k, 1, none⟩ = some y := ⟨h.c 0 _ rfl, h.c 1 _ rfl⟩
theorem i64_bnd {x : Int} (h : (Lit.int .i64 x).wf = true) : -9223372036854775808 ≤ x ∧ x ≤ 9223372036854775807 := by
  simp [Lit.wf, IntKind.min, IntKind.max, IntKind.signed, IntKind.bits] at h
  omega
/-- The cells of a stuffer. -/
def sV (a b : Int) : List Value := [.int .i64 a, .int .i64 b]
/-- Whether a stuffer is valid. -/
def sOk (a b : Int) : Bool := decide ((1 ≤ a ∧ a ≤ 10) ∧ (0 ≤ b ∧ b ≤ 1))
end Go.Proofs.Ytddlpbpcdjddpaa
