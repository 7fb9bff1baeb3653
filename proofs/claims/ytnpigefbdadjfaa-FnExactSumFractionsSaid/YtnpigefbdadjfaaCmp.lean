/- Both comparisons of fractions. -/
import Derived.Test.YtnpigefbdadjfaaMulC
import Derived.Test.YtnpigefbdadjfaaFLaw
namespace Go.Proofs.Ytnpigefbdadjfaa
open Go Go.RowKit
set_option linter.unusedVariables false

def cpOk (fn fd gn gd : Int) : Prop := fIs fn fd = true ∧ fIs gn gd = true
instance (fn fd gn gd : Int) : Decidable (cpOk fn fd gn gd) := inferInstanceAs (Decidable (_ ∧ _))
def cpV (fn fd gn gd : Int) : Int := if cpOk fn fd gn gd then sgn (fn * gd + -gn * fd) else 0
def cpB (fn fd gn gd : Int) : Bool := decide (cpOk fn fd gn gd)

theorem less_words (X Y : Int) : (hi64 X < hi64 Y ∨ (hi64 X = hi64 Y ∧ lo64 X < lo64 Y)) → 0 ≤ X → X ≤ 100000000000000000000000000000000000000 → 0 ≤ Y → Y ≤ 100000000000000000000000000000000000000 → X < Y := by
  unfold hi64 lo64; omega
theorem less_words_not (X Y : Int) : ¬ (hi64 X < hi64 Y ∨ (hi64 X = hi64 Y ∧ lo64 X < lo64 Y)) → 0 ≤ X → X ≤ 100000000000000000000000000000000000000 → 0 ≤ Y → Y ≤ 100000000000000000000000000000000000000 → ¬ X < Y := by
  unfold hi64 lo64; omega

theorem l01Less_any (X Y : Int) (w : World) (x0 : 0 ≤ X) (x1 : X ≤ 100000000000000000000000000000000000000) (y0 : 0 ≤ Y) (y1 : Y ≤ 100000000000000000000000000000000000000) :
    Calls Try.prog 104 #[.agg #[.int .u64 (hi64 X), .int .u64 (lo64 X)], .agg #[.int .u64 (hi64 Y), .int .u64 (lo64 Y)]] w fun e w' => e = .returned (.bool (decide (X < Y))) ∧ Below w.heap.size w w' := by
  have hl := less_words X Y
  have hn := less_words_not X Y
  generalize hd : decide (X < Y) = d
  have HD : Hid ((hi64 X < hi64 Y ∨ (hi64 X = hi64 Y ∧ lo64 X < lo64 Y)) → d = true) := by
    show _ → _; intro h; rw [← hd]; exact decide_eq_true (hl h x0 x1 y0 y1)
  have HN : Hid (¬ (hi64 X < hi64 Y ∨ (hi64 X = hi64 Y ∧ lo64 X < lo64 Y)) → d = false) := by
    show _ → _; intro h; rw [← hd]; exact decide_eq_false (hn h x0 x1 y0 y1)
  clear hl hn hd x0 x1 y0 y1
  obtain ⟨b1, b2⟩ := hi64_bd X
  obtain ⟨b3, b4⟩ := hi64_bd Y
  generalize hi64 X = a at *
  generalize hi64 Y = b at *
  generalize lo64 X = c at *
  generalize lo64 Y = e' at *
  by_cases h1 : a < b
  · have q1 : decide (a < b) = true := decide_eq_true h1
    have HR := Lib.hid (HD.out (Or.inl h1))
    clear h1 HD HN
    go_enter Try.func104, Try.ntmps104
    go_wp2
    go_ret
    exact ⟨by rw [HR.out]; rfl, ((Below.refl _ _).alloc (Nat.le_refl _) _).alloc (by simp) _⟩
  · have q1 : decide (a < b) = false := decide_eq_false h1
    by_cases h2 : a = b
    · have q2 : (a == b) = true := beq_t h2
      by_cases h3 : c < e'
      · have q3 : decide (c < e') = true := decide_eq_true h3
        have HR := Lib.hid (HD.out (Or.inr ⟨h2, h3⟩))
        clear h1 h2 h3 HD HN
        go_enter Try.func104, Try.ntmps104
        go_wp2
        go_ret
        exact ⟨by rw [HR.out]; rfl, ((Below.refl _ _).alloc (Nat.le_refl _) _).alloc (by simp) _⟩
      · have q3 : decide (c < e') = false := decide_eq_false h3
        have HR := Lib.hid (HN.out (fun h => h.elim h1 (fun k => h3 k.2)))
        clear h1 h2 h3 HD HN
        go_enter Try.func104, Try.ntmps104
        go_wp2
        go_ret
        exact ⟨by rw [HR.out]; rfl, ((Below.refl _ _).alloc (Nat.le_refl _) _).alloc (by simp) _⟩
    · have q2 : (a == b) = false := beq_f h2
      have HR := Lib.hid (HN.out (fun h => h.elim h1 (fun k => h2 k.1)))
      clear h1 h2 HD HN
      go_enter Try.func104, Try.ntmps104
      go_wp2
      go_ret
      exact ⟨by rw [HR.out]; rfl, ((Below.refl _ _).alloc (Nat.le_refl _) _).alloc (by simp) _⟩
theorem cmp_vals (fn fd gn gd : Int) (f3 : 1 ≤ fd) (g3 : 1 ≤ gd) :
    (fn < 0 → gn < 0 → sgn (fn * gd + -gn * fd) = if (fn.natAbs : Int) * gd < (gn.natAbs : Int) * fd then 1 else if (gn.natAbs : Int) * fd < (fn.natAbs : Int) * gd then -1 else 0) ∧
    (¬ fn < 0 → ¬ gn < 0 → sgn (fn * gd + -gn * fd) = if (fn.natAbs : Int) * gd < (gn.natAbs : Int) * fd then -1 else if (gn.natAbs : Int) * fd < (fn.natAbs : Int) * gd then 1 else 0) ∧
    (fn < 0 → ¬ gn < 0 → sgn (fn * gd + -gn * fd) = -1) ∧ (¬ fn < 0 → gn < 0 → sgn (fn * gd + -gn * fd) = 1) := by
  refine ⟨fun a b => ?_, fun a b => ?_, fun a b => ?_, fun a b => ?_⟩
  · rw [show (fn.natAbs : Int) = -fn from by omega, show (gn.natAbs : Int) = -gn from by omega, Int.neg_mul fn gd]
    generalize fn * gd = p
    generalize -gn * fd = q
    unfold sgn
    (repeat' split) <;> omega
  · rw [show (fn.natAbs : Int) = fn from by omega, show (gn.natAbs : Int) = gn from by omega, Int.neg_mul gn fd]
    generalize fn * gd = p
    generalize gn * fd = q
    unfold sgn
    (repeat' split) <;> omega
  · have h1 : fn * gd < 0 := Int.mul_neg_of_neg_of_pos a (by omega)
    have h2 : 0 ≤ gn * fd := Int.mul_nonneg (by omega) (by omega)
    rw [Int.neg_mul]
    unfold sgn
    (repeat' split) <;> omega
  · have h1 : 0 ≤ fn * gd := Int.mul_nonneg (by omega) (by omega)
    have h2 : gn * fd < 0 := Int.mul_neg_of_neg_of_pos b (by omega)
    rw [Int.neg_mul]
    unfold sgn
    (repeat' split) <;> omega

end Go.Proofs.Ytnpigefbdadjfaa
