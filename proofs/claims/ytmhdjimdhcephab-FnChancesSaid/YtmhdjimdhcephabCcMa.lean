/- Several texts in one: Two fractions that a law holds, and a third one that it makes. | Both comparisons of fractions. | Both comparisons, and their law. -/
import Derived.Test.YtmhdjimdhcephabMake
import Derived.Test.YtmhdjimdhcephabWide2
import Derived.Deep.RegionHeld3
import Derived.Deep.DeepCutAuto
import Derived.Test.YtmhdjimdhcephabMulC
namespace Go.Proofs.Ytmhdjimdhcephab
open Go Go.RowKit
set_option linter.unusedVariables false

theorem fbox_setF {W : World} {b : Nat} {x y : Value} (h : FBox W b x y) (X Y : Value) : FBox ((W.setCell ⟨b, 0, none⟩ X).setCell ⟨b, 1, none⟩ Y) b X Y := by
  have h1 : (W.setCell ⟨b, 0, none⟩ X).cell? ⟨b, 1, none⟩ = some y := (World.cell?_setCell_other _ _ _ _ (by simp)).trans h.1.2.1
  refine ⟨⟨?_, World.cell?_setCell_same _ _ _ h1, by simpa using h.1.2.2⟩, ?_, ?_⟩
  · rw [World.cell?_setCell_other _ _ _ _ (by simp)]
    exact World.cell?_setCell_same _ _ _ h.1.1
  · simpa using h.2.1
  · simpa using h.2.2
theorem fbox_set_far {W : World} {a b : Nat} {x y : Value} (h : FBox W a x y) (hne : b ≠ a) (X Y : Value) : FBox ((W.setCell ⟨b, 0, none⟩ X).setCell ⟨b, 1, none⟩ Y) a x y := by
  refine ⟨⟨?_, ?_, by simpa using h.1.2.2⟩, by simpa using h.2.1, by simpa using h.2.2⟩
  · rw [World.cell?_setCell_far _ _ _ _ hne, World.cell?_setCell_far _ _ _ _ hne]; exact h.1.1
  · rw [World.cell?_setCell_far _ _ _ _ hne, World.cell?_setCell_far _ _ _ _ hne]; exact h.1.2.1

/-- Two fractions lie in the first two blocks. -/
def T2 (w W : World) (A B C D : Value) : Prop := FBox W w.heap.size A B ∧ FBox W (w.heap.size + 1) C D ∧ Below w.heap.size w W
/-- A third one lies behind them. -/
def NB (w W : World) (b : Nat) (X Y : Value) : Prop := w.heap.size + 1 < b ∧ FBox W b X Y
theorem T2.keep {w W W' : World} {A B C D : Value} (h : T2 w W A B C D) (hb : Below W.heap.size W W') : T2 w W' A B C D :=
  ⟨fbox_keep h.1 hb, fbox_keep h.2.1 hb, bnext h.2.2 hb⟩
theorem T2.new (w : World) (A B C D : Value) (t : TypeId) : T2 w ((w.alloc (.cells #[A, B] t)).alloc (.cells #[C, D] t)) A B C D := by
  have h := fbox_new (w.alloc (.cells #[A, B] t)) C D t
  rw [World.size_alloc] at h
  exact ⟨fbox_alloc (fbox_new w A B t) _, h, balloc (balloc (Below.refl w.heap.size w) _) _⟩
theorem T2.c0 {w W : World} {A B C D : Value} (h : T2 w W A B C D) : W.cell? ⟨w.heap.size, 0, none⟩ = some A := h.1.1.1
theorem T2.c1 {w W : World} {A B C D : Value} (h : T2 w W A B C D) : W.cell? ⟨w.heap.size, 1, none⟩ = some B := h.1.1.2.1
theorem T2.c2 {w W : World} {A B C D : Value} (h : T2 w W A B C D) : W.cell? ⟨w.heap.size + 1, 0, none⟩ = some C := h.2.1.1.1
theorem T2.c3 {w W : World} {A B C D : Value} (h : T2 w W A B C D) : W.cell? ⟨w.heap.size + 1, 1, none⟩ = some D := h.2.1.1.2.1
theorem T2.alloc {w W : World} {A B C D : Value} (h : T2 w W A B C D) (o : Obj) : T2 w (W.alloc o) A B C D := h.keep ((Below.refl _ _).alloc (Nat.le_refl _) o)
theorem T2.drew {w W : World} {A B C D : Value} (h : T2 w W A B C D) : T2 w W.drew A B C D := h.keep (Below.refl _ _).drew
theorem T2.allocN {w W : World} {A B C D : Value} (h : T2 w W A B C D) (X Y : Value) (t : TypeId) : NB w (W.alloc (.cells #[X, Y] t)) W.heap.size X Y :=
  ⟨h.2.1.1.2.2, fbox_new W X Y t⟩
theorem NB.keep {w W W' : World} {b : Nat} {X Y : Value} (h : NB w W b X Y) (hb : Below W.heap.size W W') : NB w W' b X Y := ⟨h.1, fbox_keep h.2 hb⟩
theorem NB.alloc {w W : World} {b : Nat} {X Y : Value} (h : NB w W b X Y) (o : Obj) : NB w (W.alloc o) b X Y := h.keep ((Below.refl _ _).alloc (Nat.le_refl _) o)
theorem NB.drew {w W : World} {b : Nat} {X Y : Value} (h : NB w W b X Y) : NB w W.drew b X Y := h.keep (Below.refl _ _).drew
theorem NB.set {w W : World} {b : Nat} {x y : Value} (h : NB w W b x y) (X Y : Value) : NB w ((W.setCell ⟨b, 0, none⟩ X).setCell ⟨b, 1, none⟩ Y) b X Y := ⟨h.1, fbox_setF h.2 X Y⟩
theorem T2.set {w W : World} {A B C D : Value} (h : T2 w W A B C D) {b : Nat} {x y : Value} (n : NB w W b x y) (X Y : Value) : T2 w ((W.setCell ⟨b, 0, none⟩ X).setCell ⟨b, 1, none⟩ Y) A B C D := by
  obtain ⟨n1, n2⟩ := n
  exact ⟨fbox_set_far h.1 (by omega) X Y, fbox_set_far h.2.1 (by omega) X Y, (h.2.2.setCell (by simp; omega) _).setCell (by simp; omega) _⟩
theorem NB.new3 (w : World) (A B C D X Y : Value) (t t' : TypeId) : NB w ((((w.alloc (.cells #[A, B] t)).alloc (.cells #[C, D] t)).alloc (.cells #[X, Y] t')).drew) (w.heap.size + 1 + 1) X Y := by
  have h := ((T2.new w A B C D t).allocN X Y t').drew
  rw [World.size_alloc, World.size_alloc] at h
  exact h
theorem T2.all {w W : World} {A B C D : Value} (h : T2 w W A B C D) : W.cell? ⟨w.heap.size, 0, none⟩ = some A ∧ W.cell? ⟨w.heap.size, 1, none⟩ = some B ∧ W.cell? ⟨w.heap.size + 1, 0, none⟩ = some C ∧ W.cell? ⟨w.heap.size + 1, 1, none⟩ = some D := ⟨h.c0, h.c1, h.c2, h.c3⟩
theorem NB.c0 {w W : World} {b : Nat} {X Y : Value} (h : NB w W b X Y) : W.cell? ⟨b, 0, none⟩ = some X := h.2.1.1
theorem NB.c1 {w W : World} {b : Nat} {X Y : Value} (h : NB w W b X Y) : W.cell? ⟨b, 1, none⟩ = some Y := h.2.1.2.1
theorem NB.f0 {w W : World} {b : Nat} {X Y : Value} (h : NB w W b X Y) : W.frozen? ⟨b, 0, none⟩ = false := h.2.2.1
theorem NB.f1 {w W : World} {b : Nat} {X Y : Value} (h : NB w W b X Y) : W.frozen? ⟨b, 1, none⟩ = false := h.2.2.2

/-- The two fractions, and the one that the model has answered. -/
def T4 (w W : World) (A B C D : Value) (bb : Nat) (X Y : Value) : Prop := T2 w W A B C D ∧ NB w W bb X Y
def N2 (w W : World) (b bb : Nat) (X Y : Value) : Prop := NB w W b X Y ∧ b ≠ bb
theorem T4.keep {w W W' : World} {A B C D X Y : Value} {bb : Nat} (h : T4 w W A B C D bb X Y) (hb : Below W.heap.size W W') : T4 w W' A B C D bb X Y := ⟨h.1.keep hb, h.2.keep hb⟩
theorem T4.alloc {w W : World} {A B C D X Y : Value} {bb : Nat} (h : T4 w W A B C D bb X Y) (o : Obj) : T4 w (W.alloc o) A B C D bb X Y := ⟨h.1.alloc o, h.2.alloc o⟩
theorem T4.drew {w W : World} {A B C D X Y : Value} {bb : Nat} (h : T4 w W A B C D bb X Y) : T4 w W.drew A B C D bb X Y := ⟨h.1.drew, h.2.drew⟩
theorem T4.all {w W : World} {A B C D X Y : Value} {bb : Nat} (h : T4 w W A B C D bb X Y) : W.cell? ⟨w.heap.size, 0, none⟩ = some A ∧ W.cell? ⟨w.heap.size, 1, none⟩ = some B ∧ W.cell? ⟨w.heap.size + 1, 0, none⟩ = some C ∧ W.cell? ⟨w.heap.size + 1, 1, none⟩ = some D := h.1.all
theorem T4.c0 {w W : World} {A B C D X Y : Value} {bb : Nat} (h : T4 w W A B C D bb X Y) : W.cell? ⟨w.heap.size, 0, none⟩ = some A := h.1.c0
theorem T4.c1 {w W : World} {A B C D X Y : Value} {bb : Nat} (h : T4 w W A B C D bb X Y) : W.cell? ⟨w.heap.size, 1, none⟩ = some B := h.1.c1
theorem T4.c2 {w W : World} {A B C D X Y : Value} {bb : Nat} (h : T4 w W A B C D bb X Y) : W.cell? ⟨w.heap.size + 1, 0, none⟩ = some C := h.1.c2
theorem T4.c3 {w W : World} {A B C D X Y : Value} {bb : Nat} (h : T4 w W A B C D bb X Y) : W.cell? ⟨w.heap.size + 1, 1, none⟩ = some D := h.1.c3
theorem T4.allocN {w W : World} {A B C D X Y : Value} {bb : Nat} (h : T4 w W A B C D bb X Y) (x y : Value) (t : TypeId) : N2 w (W.alloc (.cells #[x, y] t)) W.heap.size bb x y :=
  ⟨h.1.allocN x y t, Nat.ne_of_gt h.2.2.1.2.2⟩
theorem N2.keep {w W W' : World} {b bb : Nat} {X Y : Value} (h : N2 w W b bb X Y) (hb : Below W.heap.size W W') : N2 w W' b bb X Y := ⟨h.1.keep hb, h.2⟩
theorem N2.drew {w W : World} {b bb : Nat} {X Y : Value} (h : N2 w W b bb X Y) : N2 w W.drew b bb X Y := ⟨h.1.drew, h.2⟩
theorem N2.set {w W : World} {b bb : Nat} {x y : Value} (h : N2 w W b bb x y) (X Y : Value) : N2 w ((W.setCell ⟨b, 0, none⟩ X).setCell ⟨b, 1, none⟩ Y) b bb X Y := ⟨h.1.set X Y, h.2⟩
theorem T4.set {w W : World} {A B C D X Y : Value} {bb : Nat} (h : T4 w W A B C D bb X Y) {b : Nat} {x y : Value} (n : N2 w W b bb x y) (x' y' : Value) : T4 w ((W.setCell ⟨b, 0, none⟩ x').setCell ⟨b, 1, none⟩ y') A B C D bb X Y :=
  ⟨h.1.set n.1 x' y', h.2.1, fbox_set_far h.2.2 n.2 x' y'⟩
theorem N2.c0 {w W : World} {b bb : Nat} {X Y : Value} (h : N2 w W b bb X Y) : W.cell? ⟨b, 0, none⟩ = some X := h.1.c0
theorem N2.c1 {w W : World} {b bb : Nat} {X Y : Value} (h : N2 w W b bb X Y) : W.cell? ⟨b, 1, none⟩ = some Y := h.1.c1
theorem N2.f0 {w W : World} {b bb : Nat} {X Y : Value} (h : N2 w W b bb X Y) : W.frozen? ⟨b, 0, none⟩ = false := h.1.f0
theorem N2.f1 {w W : World} {b bb : Nat} {X Y : Value} (h : N2 w W b bb X Y) : W.frozen? ⟨b, 1, none⟩ = false := h.1.f1
end Go.Proofs.Ytmhdjimdhcephab

namespace Go.Proofs.Ytmhdjimdhcephab
open Go Go.RowKit
set_option linter.unusedVariables false

def cpOk (fn fd gn gd : Int) : Prop := fIs fn fd = true ∧ fIs gn gd = true
instance (fn fd gn gd : Int) : Decidable (cpOk fn fd gn gd) := inferInstanceAs (Decidable (_ ∧ _))
def cpV (fn fd gn gd : Int) : Int := if cpOk fn fd gn gd then sgn (fn * gd + -gn * fd) else 0
def cpB (fn fd gn gd : Int) : Bool := decide (cpOk fn fd gn gd)

theorem less_words (X Y : Int) : (hi64 X < hi64 Y ∨ (hi64 X = hi64 Y ∧ lo64 X < lo64 Y)) → 0 ≤ X → X ≤ 100000000000000000000000000000000000000 → 0 ≤ Y → Y ≤ 100000000000000000000000000000000000000 → X < Y := by
  unfold hi64 lo64; omega
theorem less_words_not (X Y : Int) : ¬ (hi64 X < hi64 Y ∨ (hi64 X = hi64 Y ∧ lo64 X < lo64 Y)) → 0 ≤ X → X ≤ 100000000000000000000000000000000000000 → 0 ≤ Y → Y ≤ 100000000000000000000000000000000000000 → ¬ X < Y := by
  unfold hi64 lo64; omega

theorem l01Less_any (X Y : Int) (w : World) (x0 : 0 ≤ X) (x1 : X ≤ 100000000000000000000000000000000000000) (y0 : 0 ≤ Y) (y1 : Y ≤ 100000000000000000000000000000000000000) :
    Calls Try.prog 123 #[.agg #[.int .u64 (hi64 X), .int .u64 (lo64 X)], .agg #[.int .u64 (hi64 Y), .int .u64 (lo64 Y)]] w fun e w' => e = .returned (.bool (decide (X < Y))) ∧ Below w.heap.size w w' := by
  have hl := less_words X Y
  have hn := less_words_not X Y
  generalize hd : decide (X < Y) = d
  have HD : Hid ((hi64 X < hi64 Y ∨ (hi64 X = hi64 Y ∧ lo64 X < lo64 Y)) → d = true) := by
    show _ → _; intro h; rw [← hd]; exact decide_eq_true (hl h x0 x1 y0 y1)
  have HN : Hid (¬ (hi64 X < hi64 Y ∨ (hi64 X = hi64 Y ∧ lo64 X < lo64 Y)) → d = false) := by
    show _ → _; intro h; rw [← hd]; exact decide_eq_false (hn h x0 x1 y0 y1)
  clear hl hn hd x0 x1 y0 y1
  obtain ⟨b1, b2⟩ := hi64_bd X
  obtain ⟨b3, b4⟩ := hi64_bd Y
  generalize hi64 X = a at *
  generalize hi64 Y = b at *
  generalize lo64 X = c at *
  generalize lo64 Y = e' at *
  by_cases h1 : a < b
  · have q1 : decide (a < b) = true := decide_eq_true h1
    have HR := Lib.hid (HD.out (Or.inl h1))
    clear h1 HD HN
    go_enter Try.func123, Try.ntmps123
    go_wp2
    go_ret
    exact ⟨by rw [HR.out]; rfl, ((Below.refl _ _).alloc (Nat.le_refl _) _).alloc (by simp) _⟩
  · have q1 : decide (a < b) = false := decide_eq_false h1
    by_cases h2 : a = b
    · have q2 : (a == b) = true := beq_t h2
      by_cases h3 : c < e'
      · have q3 : decide (c < e') = true := decide_eq_true h3
        have HR := Lib.hid (HD.out (Or.inr ⟨h2, h3⟩))
        clear h1 h2 h3 HD HN
        go_enter Try.func123, Try.ntmps123
        go_wp2
        go_ret
        exact ⟨by rw [HR.out]; rfl, ((Below.refl _ _).alloc (Nat.le_refl _) _).alloc (by simp) _⟩
      · have q3 : decide (c < e') = false := decide_eq_false h3
        have HR := Lib.hid (HN.out (fun h => h.elim h1 (fun k => h3 k.2)))
        clear h1 h2 h3 HD HN
        go_enter Try.func123, Try.ntmps123
        go_wp2
        go_ret
        exact ⟨by rw [HR.out]; rfl, ((Below.refl _ _).alloc (Nat.le_refl _) _).alloc (by simp) _⟩
    · have q2 : (a == b) = false := beq_f h2
      have HR := Lib.hid (HN.out (fun h => h.elim h1 (fun k => h2 k.1)))
      clear h1 h2 HD HN
      go_enter Try.func123, Try.ntmps123
      go_wp2
      go_ret
      exact ⟨by rw [HR.out]; rfl, ((Below.refl _ _).alloc (Nat.le_refl _) _).alloc (by simp) _⟩
theorem cmp_vals (fn fd gn gd : Int) (f3 : 1 ≤ fd) (g3 : 1 ≤ gd) :
    (fn < 0 → gn < 0 → sgn (fn * gd + -gn * fd) = if (fn.natAbs : Int) * gd < (gn.natAbs : Int) * fd then 1 else if (gn.natAbs : Int) * fd < (fn.natAbs : Int) * gd then -1 else 0) ∧
    (¬ fn < 0 → ¬ gn < 0 → sgn (fn * gd + -gn * fd) = if (fn.natAbs : Int) * gd < (gn.natAbs : Int) * fd then -1 else if (gn.natAbs : Int) * fd < (fn.natAbs : Int) * gd then 1 else 0) ∧
    (fn < 0 → ¬ gn < 0 → sgn (fn * gd + -gn * fd) = -1) ∧ (¬ fn < 0 → gn < 0 → sgn (fn * gd + -gn * fd) = 1) := by
  refine ⟨fun a b => ?_, fun a b => ?_, fun a b => ?_, fun a b => ?_⟩
  · rw [show (fn.natAbs : Int) = -fn from by omega, show (gn.natAbs : Int) = -gn from by omega, Int.neg_mul fn gd]
    generalize fn * gd = p
    generalize -gn * fd = q
    unfold sgn
    (repeat' split) <;> omega
  · rw [show (fn.natAbs : Int) = fn from by omega, show (gn.natAbs : Int) = gn from by omega, Int.neg_mul gn fd]
    generalize fn * gd = p
    generalize gn * fd = q
    unfold sgn
    (repeat' split) <;> omega
  · have h1 : fn * gd < 0 := Int.mul_neg_of_neg_of_pos a (by omega)
    have h2 : 0 ≤ gn * fd := Int.mul_nonneg (by omega) (by omega)
    rw [Int.neg_mul]
    unfold sgn
    (repeat' split) <;> omega
  · have h1 : 0 ≤ fn * gd := Int.mul_nonneg (by omega) (by omega)
    have h2 : gn * fd < 0 := Int.mul_neg_of_neg_of_pos b (by omega)
    rw [Int.neg_mul]
    unfold sgn
    (repeat' split) <;> omega

set_option maxHeartbeats 1600000 in
set_option maxRecDepth 100000 in
theorem l01FCmp_same (fn fd gn gd : Int) (w : World) (f1 : -1000000000000000000 ≤ fn) (f2 : fn ≤ 1000000000000000000) (f3 : 1 ≤ fd) (f4 : fd ≤ 1000000000000000000) (g1 : -1000000000000000000 ≤ gn) (g2 : gn ≤ 1000000000000000000) (g3 : 1 ≤ gd) (g4 : gd ≤ 1000000000000000000) (s : Bool) (sf : decide (fn < 0) = s) (sg : decide (gn < 0) = s) (v : Int) (P Q : Int) (hP : (fn.natAbs : Int) * gd = P) (hQ : (gn.natAbs : Int) * fd = Q) (dp dq : Bool) (hdp : decide (P < Q) = dp) (hdq : decide (Q < P) = dq) (hv : v = if s = true then (if dp = true then 1 else if dq = true then -1 else 0) else (if dp = true then -1 else if dq = true then 1 else 0)) :
    Calls Try.prog 140 #[.agg #[.int .i64 fn, .int .i64 fd], .agg #[.int .i64 gn, .int .i64 gd]] w fun e w' => e = .returned (.int .i64 v) ∧ Below w.heap.size w w' := by
  obtain ⟨p1, p2⟩ := mul_bd (fn.natAbs : Int) gd 1000000000000000000 1000000000000000000 (by omega) (by omega) (by omega) (by omega)
  obtain ⟨r1, r2⟩ := mul_bd (gn.natAbs : Int) fd 1000000000000000000 1000000000000000000 (by omega) (by omega) (by omega) (by omega)
  have HTP := Lib.hid (fun W => l01Times_any (fn.natAbs : Int) gd W (by omega) (by omega) (by omega) (by omega))
  have HTQ := Lib.hid (fun W => l01Times_any (gn.natAbs : Int) fd W (by omega) (by omega) (by omega) (by omega))
  rw [hP] at HTP p1 p2
  rw [hQ] at HTQ r1 r2
  have p2 : P ≤ 100000000000000000000000000000000000000 := by omega
  have r2 : Q ≤ 100000000000000000000000000000000000000 := by omega
  have HL1 := Lib.hid (fun W => l01Less_any P Q W p1 p2 r1 r2)
  have HL2 := Lib.hid (fun W => l01Less_any Q P W r1 r2 p1 p2)
  rw [hdp] at HL1
  rw [hdq] at HL2
  have hno : ¬ (dp = true ∧ dq = true) := by rw [← hdp, ← hdq]; simp; omega
  clear hP hQ hdp hdq
  have na : IntKind.i64.wrap (-fn) = -fn := IntWalk.i64_in _ (by omega)
  have nc : IntKind.i64.wrap (-gn) = -gn := IntWalk.i64_in _ (by omega)
  generalize hi64 P = hp at *
  generalize lo64 P = lp at *
  generalize hi64 Q = hq at *
  generalize lo64 Q = lq at *
  have hss : (s != s) = false := by cases s <;> rfl
  have HV := Lib.hid hv
  clear hv
  have t0 := T2.new w (.int .i64 fn) (.int .i64 fd) (.int .i64 gn) (.int .i64 gd) 24
  have td := t0.drew
  have n0 := NB.new3 w (.int .i64 fn) (.int .i64 fd) (.int .i64 gn) (.int .i64 gd) (.int .u64 0) (.int .u64 0) 24 124
  have z0 := t0.c0
  have z1 := t0.c1
  have z2 := t0.c2
  have z3 := t0.c3
  go_enter Try.func140, Try.ntmps140
  go_wp2_with fail
  go_cut [5] from 8 to 47 (fun s5 w' => ∃ b, s5 = .pointer (some ⟨b, 0, none⟩) ∧ NB w w' b (.int .u64 hp) (.int .u64 lp) ∧ T2 w w' (.int .i64 fn) (.int .i64 fd) (.int .i64 gn) (.int .i64 gd))
  case first =>
    go_region_held3 (fun w' => w'.cell? ⟨w.heap.size, 0, none⟩ = some (.int .i64 fn) ∧ w'.cell? ⟨w.heap.size, 1, none⟩ = some (.int .i64 fd) ∧ w'.cell? ⟨w.heap.size + 1, 0, none⟩ = some (.int .i64 gn) ∧ w'.cell? ⟨w.heap.size + 1, 1, none⟩ = some (.int .i64 gd)) ((first | with_reducible assumption | with_reducible exact T2.all t8 | with_reducible exact T2.all (T2.alloc t8 _) | with_reducible exact T2.all (T2.set t8 b8 _ _) | with_reducible exact T2.all td | with_reducible exact T2.all (T2.drew (T2.alloc t0 _)) | fail))
      (first
        | (go_at_call_of 120 (Value.int .i64 fn); refine (l00Max_abs fn _).mono ?_; rintro e w' ⟨rfl, rfl⟩)
        | (go_at_call 121; refine (HTP.out _).mono ?_; rintro e w8 ⟨rfl, hb8⟩; (first | have t8 := T2.keep td hb8 | (have t8 := T2.keep (T2.drew (T2.alloc t0 _)) hb8; have b8 := NB.keep n0 hb8)); have y0 := t8.c0; have y1 := t8.c1; have y2 := t8.c2; have y3 := t8.c3; (try (have x0 := b8.c0; have x1 := b8.c1; have x2 := b8.f0; have x3 := b8.f1)))
        | fail)
    all_goals go_wp2_with fail
    all_goals first
      | (go_meet; case rel => exact ⟨_, rfl, t8.allocN _ _ _, t8.alloc _⟩)
      | (go_meet; case rel => exact ⟨_, rfl, b8.set _ _, t8.set b8 _ _⟩)
  case rest =>
    clear n0 td z0 z1 z2 z3 t0
    obtain ⟨bb, rfl, nb, tt⟩ := hcut
    have t0 : T4 w wc _ _ _ _ bb _ _ := ⟨tt, nb⟩
    clear tt nb
    have td := t0.drew
    have n0 := (T4.allocN t0 (.int .u64 0) (.int .u64 0) 124).drew
    have z0 := t0.c0
    have z1 := t0.c1
    have z2 := t0.c2
    have z3 := t0.c3
    go_wp2_with fail
    go_cut [6] from 8 to 47 (fun s6 w' => ∃ b, s6 = .pointer (some ⟨b, 0, none⟩) ∧ N2 w w' b bb (.int .u64 hq) (.int .u64 lq) ∧ T4 w w' (.int .i64 fn) (.int .i64 fd) (.int .i64 gn) (.int .i64 gd) bb (.int .u64 hp) (.int .u64 lp))
    case first =>
      go_region_held3 (fun w' => w'.cell? ⟨w.heap.size, 0, none⟩ = some (.int .i64 fn) ∧ w'.cell? ⟨w.heap.size, 1, none⟩ = some (.int .i64 fd) ∧ w'.cell? ⟨w.heap.size + 1, 0, none⟩ = some (.int .i64 gn) ∧ w'.cell? ⟨w.heap.size + 1, 1, none⟩ = some (.int .i64 gd)) ((first | with_reducible assumption | with_reducible exact T4.all t8 | with_reducible exact T4.all (T4.alloc t8 _) | with_reducible exact T4.all (T4.set t8 b8 _ _) | with_reducible exact T4.all td | with_reducible exact T4.all (T4.drew (T4.alloc t0 _)) | fail))
        (first
          | (go_at_call_of 120 (Value.int .i64 gn); refine (l00Max_abs gn _).mono ?_; rintro e w' ⟨rfl, rfl⟩)
          | (go_at_call 121; refine (HTQ.out _).mono ?_; rintro e w8 ⟨rfl, hb8⟩; (first | have t8 := T4.keep td hb8 | (have t8 := T4.keep (T4.drew (T4.alloc t0 _)) hb8; have b8 := N2.keep n0 hb8)); have y0 := t8.c0; have y1 := t8.c1; have y2 := t8.c2; have y3 := t8.c3; (try (have x0 := b8.c0; have x1 := b8.c1; have x2 := b8.f0; have x3 := b8.f1)))
          | fail)
      all_goals go_wp2_with fail
      all_goals first
        | (go_meet; case rel => exact ⟨_, rfl, t8.allocN _ _ _, t8.alloc _⟩)
        | (go_meet; case rel => exact ⟨_, rfl, b8.set _ _, t8.set b8 _ _⟩)
    case rest =>
      clear n0 td z0 z1 z2 z3 t0
      obtain ⟨b3, rfl, n3, t3⟩ := hcut
      have N3 := Lib.hid n3
      have T3 := Lib.hid t3
      have z0 := n3.c0
      have z1 := n3.c1
      have z2 := t3.2.c0
      have z3 := t3.2.c1
      clear n3 t3
      go_wp2_with fail
      refine (HL1.out _).mono ?_; rintro e w5 ⟨rfl, hb5⟩
      have N5 := Lib.hid (N3.out.keep hb5)
      have T5 := Lib.hid (T3.out.keep hb5)
      clear hb5 z0 z1 z2 z3
      have z0 := N5.out.c0
      have z1 := N5.out.c1
      have z2 := T5.out.2.c0
      have z3 := T5.out.2.c1
      cases dp
      · go_wp2_with fail
        refine (HL2.out _).mono ?_; rintro e w6 ⟨rfl, hb6⟩
        have T6 := Lib.hid (T5.out.keep hb6)
        clear hb6 z0 z1 z2 z3
        have z0 := T6.out.c0
        cases dq
        all_goals
          cases s
          all_goals
            have hvv := HV.out
            simp only [Bool.false_eq_true, if_true, if_false] at hvv
            go_wp2_with fail
            go_ret
            exact ⟨by rw [hvv]; rfl, T6.out.1.2.2⟩
      · go_wp2_with fail
        refine (HL2.out _).mono ?_; rintro e w6 ⟨rfl, hb6⟩
        have T6 := Lib.hid (T5.out.keep hb6)
        clear hb6 z0 z1 z2 z3
        have z0 := T6.out.c0
        have hq0 : dq = false := by cases dq <;> simp at hno ⊢
        subst hq0
        cases s
        all_goals
          have hvv := HV.out
          simp only [Bool.false_eq_true, if_true, if_false] at hvv
          go_wp2_with fail
          go_ret
          exact ⟨by rw [hvv]; rfl, T6.out.1.2.2⟩
end Go.Proofs.Ytmhdjimdhcephab

namespace Go.Proofs.Ytmhdjimdhcephab
open Go Go.RowKit
set_option linter.unusedVariables false

theorem l01FCmp_diff (fn fd gn gd : Int) (w : World) (s s' : Bool) (hss : (s != s') = true) (sf : decide (fn < 0) = s) (sg : decide (gn < 0) = s') (v : Int) (hv : v = if s = true then -1 else 1) :
    Calls Try.prog 140 #[.agg #[.int .i64 fn, .int .i64 fd], .agg #[.int .i64 gn, .int .i64 gd]] w fun e w' => e = .returned (.int .i64 v) ∧ Below w.heap.size w w' := by
  have HV := Lib.hid hv
  clear hv
  have t0 := T2.new w (.int .i64 fn) (.int .i64 fd) (.int .i64 gn) (.int .i64 gd) 24
  have z0 := t0.c0
  have z2 := t0.c2
  go_enter Try.func140, Try.ntmps140
  cases s
  · have hs : s' = true := by cases s' <;> simp at hss ⊢
    subst hs
    have hvv := HV.out
    simp only [Bool.false_eq_true, if_false] at hvv
    subst hvv
    go_wp2_with fail
    go_ret
    exact ⟨rfl, t0.2.2⟩
  · have hs : s' = false := by cases s' <;> simp at hss ⊢
    subst hs
    have hvv := HV.out
    simp only [if_true] at hvv
    subst hvv
    go_wp2_with fail
    go_ret
    exact ⟨rfl, t0.2.2⟩

theorem l01FCmp_any (fn fd gn gd : Int) (w : World) (f1 : -1000000000000000000 ≤ fn) (f2 : fn ≤ 1000000000000000000) (f3 : 1 ≤ fd) (f4 : fd ≤ 1000000000000000000) (g1 : -1000000000000000000 ≤ gn) (g2 : gn ≤ 1000000000000000000) (g3 : 1 ≤ gd) (g4 : gd ≤ 1000000000000000000) :
    Calls Try.prog 140 #[.agg #[.int .i64 fn, .int .i64 fd], .agg #[.int .i64 gn, .int .i64 gd]] w fun e w' => e = .returned (.int .i64 (sgn (fn * gd + -gn * fd))) ∧ Below w.heap.size w w' := by
  obtain ⟨v1, v2, v3, v4⟩ := cmp_vals fn fd gn gd f3 g3
  by_cases ha : fn < 0
  all_goals by_cases hb : gn < 0
  · refine l01FCmp_same fn fd gn gd w f1 f2 f3 f4 g1 g2 g3 g4 true (decide_eq_true ha) (decide_eq_true hb) _ _ _ rfl rfl _ _ rfl rfl ?_
    rw [v1 ha hb]; simp
  · exact l01FCmp_diff fn fd gn gd w true false rfl (decide_eq_true ha) (decide_eq_false hb) _ (v3 ha hb)
  · exact l01FCmp_diff fn fd gn gd w false true rfl (decide_eq_false ha) (decide_eq_true hb) _ (v4 ha hb)
  · refine l01FCmp_same fn fd gn gd w f1 f2 f3 f4 g1 g2 g3 g4 false (decide_eq_false ha) (decide_eq_false hb) _ _ _ rfl rfl _ _ rfl rfl ?_
    rw [v2 ha hb]; simp

set_option maxRecDepth 100000 in
theorem cmp_spec (fn fd gn gd : Int) (w : World) :
    Calls Try.prog 96 #[.agg #[.int .i64 fn, .int .i64 fd], .agg #[.int .i64 gn, .int .i64 gd]] w fun e w' => e = .returned (.tuple #[.int .i64 (cpV fn fd gn gd), .bool (cpB fn fd gn gd)]) ∧ Below w.heap.size w w' := by
  have t0 := Lib.hid (T2.new w (.int .i64 fn) (.int .i64 fd) (.int .i64 gn) (.int .i64 gd) 24)
  cases hf : fIs fn fd
  · have HF := Lib.hid hf
    have hno : ¬ cpOk fn fd gn gd := fun h => by rw [h.1] at hf; cases hf
    have e1 : cpV fn fd gn gd = 0 := if_neg hno
    have e2 : cpB fn fd gn gd = false := decide_eq_false hno
    rw [e1, e2]
    clear e1 e2 hf hno
    go_enter Try.func96, Try.ntmps96
    go_wp2_with fail
    refine (l01FIs_any _ _ _).mono ?_; rintro e w1 ⟨rfl, hb1⟩
    rw [HF.out]
    have t1 := Lib.hid (t0.out.keep hb1)
    clear hb1
    go_wp2_with fail
    go_ret2
    exact ⟨rfl, t1.out.2.2⟩
  · have HF := Lib.hid hf
    cases hg : fIs gn gd
    · have HG := Lib.hid hg
      have hno : ¬ cpOk fn fd gn gd := fun h => by rw [h.2] at hg; cases hg
      have e1 : cpV fn fd gn gd = 0 := if_neg hno
      have e2 : cpB fn fd gn gd = false := decide_eq_false hno
      rw [e1, e2]
      clear e1 e2 hf hg hno
      go_enter Try.func96, Try.ntmps96
      go_wp2_with fail
      refine (l01FIs_any _ _ _).mono ?_; rintro e w1 ⟨rfl, hb1⟩
      rw [HF.out]
      have t1 := Lib.hid (t0.out.keep hb1)
      clear hb1
      have z2 := t1.out.c2
      have z3 := t1.out.c3
      go_wp2_with fail
      refine (l01FIs_any _ _ _).mono ?_; rintro e w2 ⟨rfl, hb2⟩
      rw [HG.out]
      have t2 := Lib.hid (t1.out.keep hb2)
      clear hb2 z2 z3
      go_wp2_with fail
      go_ret2
      exact ⟨rfl, t2.out.2.2⟩
    · have HG := Lib.hid hg
      have e1 : cpV fn fd gn gd = sgn (fn * gd + -gn * fd) := if_pos ⟨hf, hg⟩
      have e2 : cpB fn fd gn gd = true := decide_eq_true ⟨hf, hg⟩
      obtain ⟨⟨f3, f4⟩, f1, f2⟩ := fIs_bd hf
      obtain ⟨⟨g3, g4⟩, g1, g2⟩ := fIs_bd hg
      rw [e1, e2]
      clear e1 e2 hf hg
      have HC := Lib.hid (fun W => l01FCmp_any fn fd gn gd W f1 f2 f3 f4 g1 g2 g3 g4)
      generalize sgn (fn * gd + -gn * fd) = v at *
      go_enter Try.func96, Try.ntmps96
      go_wp2_with fail
      refine (l01FIs_any _ _ _).mono ?_; rintro e w1 ⟨rfl, hb1⟩
      rw [HF.out]
      have t1 := Lib.hid (t0.out.keep hb1)
      clear hb1
      have z2 := t1.out.c2
      have z3 := t1.out.c3
      go_wp2_with fail
      refine (l01FIs_any _ _ _).mono ?_; rintro e w2 ⟨rfl, hb2⟩
      rw [HG.out]
      have t2 := Lib.hid (t1.out.keep hb2)
      clear hb2 z2 z3
      have z0 := t2.out.c0
      have z1 := t2.out.c1
      have z2 := t2.out.c2
      have z3 := t2.out.c3
      go_wp2_with fail
      refine (HC.out _).mono ?_; rintro e w3 ⟨rfl, hb3⟩
      have t3 := Lib.hid (t2.out.keep hb3)
      clear hb3 z0 z1 z2 z3
      go_wp2_with fail
      go_ret2
      exact ⟨rfl, t3.out.2.2⟩

end Go.Proofs.Ytmhdjimdhcephab

