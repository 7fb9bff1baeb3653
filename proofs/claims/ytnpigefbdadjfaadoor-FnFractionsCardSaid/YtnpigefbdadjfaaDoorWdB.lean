/- The model's sum of fractions. -/
import Derived.Test.YtnpigefbdadjfaaDoorWdA
import Derived.Test.YtnpigefbdadjfaaDoorAdP
namespace Go.Proofs.YtnpigefbdadjfaaDoor
open Go Go.RowKit
set_option linter.unusedVariables false

/-- Two fractions, the result's box, and boxes made since. -/
def Fs (w W : World) (A B C D : Value) (L : List (Nat × Value × Value)) : Prop := T3 w W w.heap.size (w.heap.size + 1) (w.heap.size + 1 + 1) A B C D (.int .i64 0) (.int .i64 0) ∧ ∀ x ∈ L, w.heap.size + 1 + 1 < x.1 ∧ FBox W x.1 x.2.1 x.2.2
theorem Fs.keep {w W W' : World} {A B C D : Value} {L : List (Nat × Value × Value)} (h : Fs w W A B C D L) (hb : Below W.heap.size W W') : Fs w W' A B C D L := ⟨h.1.keep hb, fun x hx => ⟨(h.2 x hx).1, fbox_keep (h.2 x hx).2 hb⟩⟩
theorem Fs.alloc {w W : World} {A B C D : Value} {L : List (Nat × Value × Value)} (h : Fs w W A B C D L) (o : Obj) : Fs w (W.alloc o) A B C D L := h.keep ((Below.refl _ _).alloc (Nat.le_refl _) o)
theorem Fs.drew {w W : World} {A B C D : Value} {L : List (Nat × Value × Value)} (h : Fs w W A B C D L) : Fs w W.drew A B C D L := h.keep (Below.refl _ _).drew
theorem Fs.new {w W : World} {A B C D : Value} {L : List (Nat × Value × Value)} (h : Fs w W A B C D L) (X Y : Value) (t : TypeId) : Fs w (W.alloc (.cells #[X, Y] t)) A B C D ((W.heap.size, X, Y) :: L) := by
  refine ⟨(h.alloc _).1, fun x hx => ?_⟩
  rcases List.mem_cons.1 hx with rfl | hx
  · exact ⟨h.1.2.2.1.1.2.2, fbox_new W X Y t⟩
  · exact (h.alloc _).2 x hx
theorem Fs.newAt {w W : World} {A B C D : Value} {L : List (Nat × Value × Value)} (h : Fs w W A B C D L) (X Y : Value) (t : TypeId) (b : Nat) (hb : b = W.heap.size) : Fs w (W.alloc (.cells #[X, Y] t)) A B C D ((b, X, Y) :: L) := by subst hb; exact h.new X Y t
theorem Fs.set {w W : World} {A B C D : Value} {L : List (Nat × Value × Value)} {b : Nat} {x y : Value} (h : Fs w W A B C D ((b, x, y) :: L)) (hL : ∀ z ∈ L, z.1 ≠ b) (X Y : Value) : Fs w ((W.setCell ⟨b, 0, none⟩ X).setCell ⟨b, 1, none⟩ Y) A B C D ((b, X, Y) :: L) := by
  have hb := h.2 (b, x, y) (by simp)
  refine ⟨h.1.stored X Y (by have := hb.1; simp only at this; omega) (by have := hb.1; simp only at this; omega) hb.1 (by have := hb.1; simp only at this; omega), fun z hz => ?_⟩
  rcases List.mem_cons.1 hz with rfl | hz
  · exact ⟨hb.1, fbox_setF hb.2 X Y⟩
  · exact ⟨(h.2 z (by simp [hz])).1, fbox_set_far (h.2 z (by simp [hz])).2 (fun e => hL z hz e.symm) X Y⟩
theorem Fs.all {w W : World} {A B C D : Value} {L : List (Nat × Value × Value)} (h : Fs w W A B C D L) : W.cell? ⟨w.heap.size, 0, none⟩ = some A ∧ W.cell? ⟨w.heap.size, 1, none⟩ = some B ∧ W.cell? ⟨w.heap.size + 1, 0, none⟩ = some C ∧ W.cell? ⟨w.heap.size + 1, 1, none⟩ = some D := ⟨h.1.1.1.1, h.1.1.1.2.1, h.1.2.1.1.1, h.1.2.1.1.2.1⟩
theorem Fs.at {w W : World} {A B C D : Value} {L : List (Nat × Value × Value)} (h : Fs w W A B C D L) (b : Nat) (x y : Value) (hm : (b, x, y) ∈ L) : W.cell? ⟨b, 0, none⟩ = some x ∧ W.cell? ⟨b, 1, none⟩ = some y ∧ W.frozen? ⟨b, 0, none⟩ = false ∧ W.frozen? ⟨b, 1, none⟩ = false := ⟨(h.2 _ hm).2.1.1, (h.2 _ hm).2.1.2.1, (h.2 _ hm).2.2.1, (h.2 _ hm).2.2.2⟩
theorem Fs.lt {w W : World} {A B C D : Value} {L : List (Nat × Value × Value)} (h : Fs w W A B C D L) (b : Nat) (x y : Value) (hm : (b, x, y) ∈ L) : b < W.heap.size := (h.2 _ hm).2.1.2.2
theorem Fs.first (w : World) (A B C D : Value) (t : TypeId) : Fs w (((w.alloc (.cells #[A, B] t)).alloc (.cells #[C, D] t)).alloc (.cells #[.int .i64 0, .int .i64 0] t)) A B C D [] := by
  refine ⟨⟨?_, ?_, ?_, ?_⟩, fun x hx => by cases hx⟩
  · exact fbox_alloc (fbox_alloc (fbox_new w A B t) _) _
  · have := fbox_alloc (fbox_new (w.alloc (.cells #[A, B] t)) C D t) (.cells #[.int .i64 0, .int .i64 0] t)
    simpa using this
  · have := fbox_new ((w.alloc (.cells #[A, B] t)).alloc (.cells #[C, D] t)) (.int .i64 0) (.int .i64 0) t
    simpa using this
  · exact balloc (balloc (balloc (Below.refl w.heap.size w) _) _) _

theorem ad_cases (fn gn : Int) (ea eb X Y : Nat) (T : Int) (hT : T = fn * (ea : Int) + gn * (eb : Int)) (hX : X = fn.natAbs * ea) (hY : Y = gn.natAbs * eb) :
    ∃ P Q : Int, T = P + Q ∧ X = P.natAbs ∧ Y = Q.natAbs ∧ (fn < 0 → P ≤ 0) ∧ (¬ fn < 0 → 0 ≤ P) ∧ (gn < 0 → Q ≤ 0) ∧ (¬ gn < 0 → 0 ≤ Q) := by
  refine ⟨fn * ea, gn * eb, hT, by rw [hX, Int.natAbs_mul]; simp, by rw [hY, Int.natAbs_mul]; simp, ?_, ?_, ?_, ?_⟩
  · exact fun h => Int.mul_nonpos_of_nonpos_of_nonneg (by omega) (by omega)
  · exact fun h => Int.mul_nonneg (by omega) (by omega)
  · exact fun h => Int.mul_nonpos_of_nonpos_of_nonneg (by omega) (by omega)
  · exact fun h => Int.mul_nonneg (by omega) (by omega)
theorem ovV_sign (T : Int) (S : Nat) (m : Bool) (h : m = true → T ≤ 0) (h' : m = false → 0 ≤ T) : ovV T S = if m = true then -((T.natAbs / S : Nat) : Int) else ((T.natAbs / S : Nat) : Int) := by
  unfold ovV
  cases m
  · have := h' rfl
    rw [if_neg (by omega), if_neg (by simp)]
  · have := h rfl
    rw [if_pos rfl]
    split
    · rfl
    · have e : T.natAbs = 0 := by omega
      rw [e, Nat.zero_div]; rfl
theorem cop_part {a b x y : Nat} (hb : 0 < b) (h1 : Nat.gcd x y = 1) (h2 : Nat.gcd a b = 1) (he : a * y = x * b) : b = y := by
  have e1 : b ∣ y := by
    have : b ∣ a * y := ⟨x, by rw [he, Nat.mul_comm]⟩
    exact (Nat.Coprime.symm h2).dvd_of_dvd_mul_left this
  have e2 : y ∣ b := by
    have : y ∣ x * b := ⟨a, by rw [← he, Nat.mul_comm]⟩
    exact (Nat.Coprime.symm h1).dvd_of_dvd_mul_left this
  exact Nat.dvd_antisymm e1 e2
/-- A sum that is nothing has one behind it. -/
theorem ad_zero (fn gn : Int) (fd gd : Nat) (hf : Nat.gcd fn.natAbs fd = 1) (hg : Nat.gcd gn.natAbs gd = 1) (f0 : 0 < fd) (g0 : 0 < gd) (h : adT fn gn fd gd = 0) : adM fn gn fd gd = 1 := by
  have hd0 : 0 < Nat.gcd fd gd := Nat.gcd_pos_of_pos_left _ f0
  obtain ⟨P, Q, hT, hX, hY, -⟩ := ad_cases fn gn (gd / Nat.gcd fd gd) (fd / Nat.gcd fd gd) _ _ _ rfl rfl rfl
  have hz : P + Q = 0 := by rw [← hT]; exact h
  have e : fn.natAbs * (gd / Nat.gcd fd gd) = gn.natAbs * (fd / Nat.gcd fd gd) := by omega
  have e1 : fd / Nat.gcd fd gd * Nat.gcd fd gd = fd := Nat.div_mul_cancel (Nat.gcd_dvd_left _ _)
  have e2 : gd / Nat.gcd fd gd * Nat.gcd fd gd = gd := Nat.div_mul_cancel (Nat.gcd_dvd_right _ _)
  have e3 : fn.natAbs * gd = gn.natAbs * fd := by
    calc fn.natAbs * gd = fn.natAbs * (gd / Nat.gcd fd gd) * Nat.gcd fd gd := by rw [Nat.mul_assoc, e2]
      _ = gn.natAbs * (fd / Nat.gcd fd gd) * Nat.gcd fd gd := by rw [e]
      _ = gn.natAbs * fd := by rw [Nat.mul_assoc, e1]
  have e4 : fd = gd := cop_part f0 hg hf e3
  subst e4
  have e5 : adS fn gn fd fd = fd := by unfold adS; rw [h, Nat.gcd_self]; simp
  unfold adM
  rw [e5, Nat.gcd_self, Nat.div_self f0]; rfl

end Go.Proofs.YtnpigefbdadjfaaDoor
