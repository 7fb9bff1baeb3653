/- Contracts of the program's wide numbers: productOf, plus, opposite, sign, size, part, fractionOf. -/
import Derived.Test.YtnpigefbdadjfaaDoorMake
import Derived.Test.YtnpigefbdadjfaaDoorShelf
import Derived.Laws.Externs
import Derived.Shelf.Spec.BitsCarry
namespace Go.Proofs.YtnpigefbdadjfaaDoor
open Go Go.RowKit
set_option linter.unusedVariables false

/-- The two words of a number in two's complement. -/
def hi64 (Z : Int) : Int := Z / 18446744073709551616 % 18446744073709551616
def lo64 (Z : Int) : Int := Z % 18446744073709551616
/-- What is carried out of the low words of a sum, and out of the high ones; what is borrowed by the opposite. -/
def car1 (X Y : Int) : Int := (lo64 X + lo64 Y) / 18446744073709551616
def car2 (X Y : Int) : Int := (hi64 X + hi64 Y + car1 X Y) / 18446744073709551616
def bor1 (X : Int) : Int := if 0 < lo64 X then 1 else 0
def bor2 (X : Int) : Int := if 0 < hi64 X + bor1 X then 1 else 0
theorem lo64_bd (Z : Int) : 0 ≤ lo64 Z ∧ lo64 Z ≤ 18446744073709551615 := by unfold lo64; omega
theorem hi64_bd (Z : Int) : 0 ≤ hi64 Z ∧ hi64 Z ≤ 18446744073709551615 := by unfold hi64; omega

theorem add64 (x y c : Int) (hx : 0 ≤ x) (hy : 0 ≤ y) (hx' : x ≤ 18446744073709551615) (hy' : y ≤ 18446744073709551615) (hc0 : 0 ≤ c) (hc : c ≤ 1) (w : World) : (callFunc 124 #[.int .u64 x, .int .u64 y, .int .u64 c]).run Tryd.prog w =
    .ok (.value (.tuple #[.int .u64 ((x + y + c) % 18446744073709551616), .int .u64 ((x + y + c) / 18446744073709551616)])) w := by
  obtain ⟨x, rfl⟩ := Int.eq_ofNat_of_zero_le hx
  obtain ⟨y, rfl⟩ := Int.eq_ofNat_of_zero_le hy
  obtain ⟨c, rfl⟩ := Int.eq_ofNat_of_zero_le hc0
  rw [run_callFunc_extern Tryd.func124 (by kernel_rfl) (by kernel_rfl) (by kernel_rfl) (e := add64Entry) (by kernel_rfl), run_add64 x y c (by omega) (by omega) (by omega) (by omega)]
  simp only [Result.andThen]
theorem sub64 (x y b : Int) (hx : 0 ≤ x) (hy : 0 ≤ y) (hy' : y ≤ 18446744073709551615) (hb0 : 0 ≤ b) (hb : b ≤ 1) (w : World) : (callFunc 153 #[.int .u64 x, .int .u64 y, .int .u64 b]).run Tryd.prog w =
    .ok (.value (.tuple #[.int .u64 ((x - y - b) % 18446744073709551616), .int .u64 (if x < y + b then 1 else 0)])) w := by
  obtain ⟨x, rfl⟩ := Int.eq_ofNat_of_zero_le hx
  obtain ⟨y, rfl⟩ := Int.eq_ofNat_of_zero_le hy
  obtain ⟨b, rfl⟩ := Int.eq_ofNat_of_zero_le hb0
  have e1 : (((x + 18446744073709551616 - y - b) % 18446744073709551616 : Nat) : Int) = ((x : Int) - y - b) % 18446744073709551616 := by omega
  have e2 : ((if x < y + b then 1 else 0 : Nat) : Int) = if (x : Int) < y + b then 1 else 0 := by split <;> split <;> omega
  rw [← e1, ← e2]
  rw [run_callFunc_extern Tryd.func153 (by kernel_rfl) (by kernel_rfl) (by kernel_rfl) (e := sub64Entry) (by kernel_rfl), run_sub64 x y b (by omega)]
  rfl

theorem car1_bd (X Y : Int) : 0 ≤ car1 X Y ∧ car1 X Y ≤ 1 := by
  have h1 := lo64_bd X; have h2 := lo64_bd Y; unfold car1; omega
theorem bor1_bd (X : Int) : 0 ≤ bor1 X ∧ bor1 X ≤ 1 := by unfold bor1; split <;> omega
theorem addLo (X Y : Int) (w : World) : (callFunc 124 #[.int .u64 (lo64 X), .int .u64 (lo64 Y), .int .u64 0]).run Tryd.prog w = .ok (.value (.tuple #[.int .u64 (lo64 (X + Y)), .int .u64 (car1 X Y)])) w := by
  rw [add64 _ _ 0 (lo64_bd X).1 (lo64_bd Y).1 (lo64_bd X).2 (lo64_bd Y).2 (by omega) (by omega)]
  rw [show (lo64 X + lo64 Y + 0) % 18446744073709551616 = lo64 (X + Y) from by unfold lo64; omega, show (lo64 X + lo64 Y + 0) / 18446744073709551616 = car1 X Y from by unfold car1; rw [Int.add_zero]]
theorem addHi (X Y : Int) (w : World) : (callFunc 124 #[.int .u64 (hi64 X), .int .u64 (hi64 Y), .int .u64 (car1 X Y)]).run Tryd.prog w = .ok (.value (.tuple #[.int .u64 (hi64 (X + Y)), .int .u64 (car2 X Y)])) w := by
  rw [add64 _ _ _ (hi64_bd X).1 (hi64_bd Y).1 (hi64_bd X).2 (hi64_bd Y).2 (car1_bd X Y).1 (car1_bd X Y).2]
  rw [show (hi64 X + hi64 Y + car1 X Y) % 18446744073709551616 = hi64 (X + Y) from by unfold hi64 car1 lo64; omega, show (hi64 X + hi64 Y + car1 X Y) / 18446744073709551616 = car2 X Y from rfl]
theorem subLo (X : Int) (w : World) : (callFunc 153 #[.int .u64 0, .int .u64 (lo64 X), .int .u64 0]).run Tryd.prog w = .ok (.value (.tuple #[.int .u64 (lo64 (-X)), .int .u64 (bor1 X)])) w := by
  rw [sub64 0 _ 0 (by omega) (lo64_bd X).1 (lo64_bd X).2 (by omega) (by omega)]
  rw [show (0 - lo64 X - 0) % 18446744073709551616 = lo64 (-X) from by unfold lo64; omega, show (if 0 < lo64 X + 0 then (1 : Int) else 0) = bor1 X from by unfold bor1; rw [Int.add_zero]]
theorem subHi (X : Int) (w : World) : (callFunc 153 #[.int .u64 0, .int .u64 (hi64 X), .int .u64 (bor1 X)]).run Tryd.prog w = .ok (.value (.tuple #[.int .u64 (hi64 (-X)), .int .u64 (bor2 X)])) w := by
  rw [sub64 0 _ _ (by omega) (hi64_bd X).1 (hi64_bd X).2 (bor1_bd X).1 (bor1_bd X).2]
  rw [show (0 - hi64 X - bor1 X) % 18446744073709551616 = hi64 (-X) from by unfold hi64 bor1 lo64; split <;> omega, show (if 0 < hi64 X + bor1 X then (1 : Int) else 0) = bor2 X from rfl]

theorem opposite_any (X : Int) (w : World) :
    Calls Tryd.prog 123 #[.agg #[.int .u64 (hi64 X), .int .u64 (lo64 X)]] w fun e w' => e = .returned (.agg #[.int .u64 (hi64 (-X)), .int .u64 (lo64 (-X))]) ∧ Below w.heap.size w w' := by
  go_enter Tryd.func123, Tryd.ntmps123
  go_wp2_with (first | simp only [subLo X] | simp only [subHi X])
  simp [bodyPost, results, Tryd.results123, go_sem]
  exact ((Below.refl _ _).alloc (Nat.le_refl _) _).alloc (by simp) _
theorem plus_any (X Y : Int) (w : World) :
    Calls Tryd.prog 74 #[.agg #[.int .u64 (hi64 X), .int .u64 (lo64 X)], .agg #[.int .u64 (hi64 Y), .int .u64 (lo64 Y)]] w fun e w' => e = .returned (.agg #[.int .u64 (hi64 (X + Y)), .int .u64 (lo64 (X + Y))]) ∧ Below w.heap.size w w' := by
  go_enter Tryd.func74, Tryd.ntmps74
  go_wp2_with (first | simp only [addLo X Y] | simp only [addHi X Y])
  simp [bodyPost, results, Tryd.results74, go_sem]
  exact (((Below.refl _ _).alloc (Nat.le_refl _) _).alloc (by simp) _).alloc (by simp; omega) _
end Go.Proofs.YtnpigefbdadjfaaDoor
