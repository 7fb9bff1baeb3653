/- Both comparisons of fractions. -/
import Derived.Test.YtmhdjimdhcephabMulC
import Derived.Test.YtmhdjimdhcephabFLaw
namespace Go.Proofs.Ytmhdjimdhcephab
open Go Go.RowKit
set_option linter.unusedVariables false

def cpOk (fn fd gn gd : Int) : Prop := fIs fn fd = true ∧ fIs gn gd = true
instance (fn fd gn gd : Int) : Decidable (cpOk fn fd gn gd) := inferInstanceAs (Decidable (_ ∧ _))
def cpV (fn fd gn gd : Int) : Int := if cpOk fn fd gn gd then sgn (fn * gd + -gn * fd) else 0
def cpB (fn fd gn gd : Int) : Bool := decide (cpOk fn fd gn gd)

theorem less_words (X Y : Int) : (hi64 X < hi64 Y ∨ (hi64 X = hi64 Y ∧ lo64 X < lo64 Y)) → 0 ≤ X → X ≤ 100000000000000000000000000000000000000 → 0 ≤ Y → Y ≤ 100000000000000000000000000000000000000 → X < Y := by
  unfold hi64 lo64; omega
theorem less_words_not (X Y : Int) : ¬ (hi64 X < hi64 Y ∨ (hi64 X = hi64 Y ∧ lo64 X < lo64 Y)) → 0 ≤ X → X ≤ 100000000000000000000000000000000000000 → 0 ≤ Y → Y ≤ 100000000000000000000000000000000000000 → ¬ X < Y := by
  unfold hi64 lo64; omega

theorem l01Less_any (X Y : Int) (w : World) (x0 : 0 ≤ X) (x1 : X ≤ 100000000000000000000000000000000000000) (y0 : 0 ≤ Y) (y1 : Y ≤ 100000000000000000000000000000000000000) :
    Calls Try.prog 123 #[.agg #[.int .u64 (hi64 X), .int .u64 (lo64 X)], .agg #[.int .u64 (hi64 Y), .int .u64 (lo64 Y)]] w fun e w' => e = .returned (.bool (decide (X < Y))) ∧ Below w.heap.size w w' := by
  have hl := less_words X Y
  have hn := less_words_not X Y
  generalize hd : decide (X < Y) = d
  have HD : Hid ((hi64 X < hi64 Y ∨ (hi64 X = hi64 Y ∧ lo64 X < lo64 Y)) → d = true) := by
    show _ → _; intro h; rw [← hd]; exact decide_eq_true (hl h x0 x1 y0 y1)
  have HN : Hid (¬ (hi64 X < hi64 Y ∨ (hi64 X = hi64 Y ∧ lo64 X < lo64 Y)) → d = false) := by
    show _ → _; intro h; rw [← hd]; exact decide_eq_false (hn h x0 x1 y0 y1)
  clear hl hn hd x0 x1 y0 y1
  obtain ⟨b1, b2⟩ := hi64_bd X
  obtain ⟨b3, b4⟩ := hi64_bd Y
  generalize hi64 X = a at *
  generalize hi64 Y = b at *
  generalize lo64 X = c at *
  generalize lo64 Y = e' at *
  by_cases h1 : a < b
  · have q1 : decide (a < b) = true := decide_eq_true h1
    have HR := Lib.hid (HD.out (Or.inl h1))
    clear h1 HD HN
    go_enter Try.func123, Try.ntmps123
    go_wp2
    go_ret
    exact ⟨by rw [HR.out]; rfl, ((Below.refl _ _).alloc (Nat.le_refl _) _).alloc (by simp) _⟩
  · have q1 : decide (a < b) = false := decide_eq_false h1
    by_cases h2 : a = b
    · have q2 : (a == b) = true := beq_t h2
      by_cases h3 : c < e'
      · have q3 : decide (c < e') = true := decide_eq_true h3
        have HR := Lib.hid (HD.out (Or.inr ⟨h2, h3⟩))
        clear h1 h2 h3 HD HN
        go_enter Try.func123, Try.ntmps123
        go_wp2
        go_ret
        exact ⟨by rw [HR.out]; rfl, ((Below.refl _ _).alloc (Nat.le_refl _) _).alloc (by simp) _⟩
      · have q3 : decide (c < e') = false := decide_eq_false h3
        have HR := Lib.hid (HN.out (fun h => h.elim h1 (fun k => h3 k.2)))
        clear h1 h2 h3 HD HN
        go_enter Try.func123, Try.ntmps123
        go_wp2
        go_ret
        exact ⟨by rw [HR.out]; rfl, ((Below.refl _ _).alloc (Nat.le_refl _) _).alloc (by simp) _⟩
    · have q2 : (a == b) = false := beq_f h2
      have HR := Lib.hid (HN.out (fun h => h.elim h1 (fun k => h2 k.1)))
      clear h1 h2 HD HN
      go_enter Try.func123, Try.ntmps123
      go_wp2
      go_ret
      exact ⟨by rw [HR.out]; rfl, ((Below.refl _ _).alloc (Nat.le_refl _) _).alloc (by simp) _⟩
theorem cmp_vals (fn fd gn gd : Int) (f3 : 1 ≤ fd) (g3 : 1 ≤ gd) :
    (fn < 0 → gn < 0 → sgn (fn * gd + -gn * fd) = if (fn.natAbs : Int) * gd < (gn.natAbs : Int) * fd then 1 else if (gn.natAbs : Int) * fd < (fn.natAbs : Int) * gd then -1 else 0) ∧
    (¬ fn < 0 → ¬ gn < 0 → sgn (fn * gd + -gn * fd) = if (fn.natAbs : Int) * gd < (gn.natAbs : Int) * fd then -1 else if (gn.natAbs : Int) * fd < (fn.natAbs : Int) * gd then 1 else 0) ∧
    (fn < 0 → ¬ gn < 0 → sgn (fn * gd + -gn * fd) = -1) ∧ (¬ fn < 0 → gn < 0 → sgn (fn * gd + -gn * fd) = 1) := by
  refine ⟨fun a b => ?_, fun a b => ?_, fun a b => ?_, fun a b => ?_⟩
  · rw [show (fn.natAbs : Int) = -fn from by omega, show (gn.natAbs : Int) = -gn from by omega, Int.neg_mul fn gd]
    generalize fn * gd = p
    generalize -gn * fd = q
    unfold sgn
    (repeat' split) <;> omega
  · rw [show (fn.natAbs : Int) = fn from by omega, show (gn.natAbs : Int) = gn from by omega, Int.neg_mul gn fd]
    generalize fn * gd = p
    generalize gn * fd = q
    unfold sgn
    (repeat' split) <;> omega
  · have h1 : fn * gd < 0 := Int.mul_neg_of_neg_of_pos a (by omega)
    have h2 : 0 ≤ gn * fd := Int.mul_nonneg (by omega) (by omega)
    rw [Int.neg_mul]
    unfold sgn
    (repeat' split) <;> omega
  · have h1 : 0 ≤ fn * gd := Int.mul_nonneg (by omega) (by omega)
    have h2 : gn * fd < 0 := Int.mul_neg_of_neg_of_pos b (by omega)
    rw [Int.neg_mul]
    unfold sgn
    (repeat' split) <;> omega

set_option maxHeartbeats 1600000 in
set_option maxRecDepth 100000 in
theorem l01FCmp_same (fn fd gn gd : Int) (w : World) (f1 : -1000000000000000000 ≤ fn) (f2 : fn ≤ 1000000000000000000) (f3 : 1 ≤ fd) (f4 : fd ≤ 1000000000000000000) (g1 : -1000000000000000000 ≤ gn) (g2 : gn ≤ 1000000000000000000) (g3 : 1 ≤ gd) (g4 : gd ≤ 1000000000000000000) (s : Bool) (sf : decide (fn < 0) = s) (sg : decide (gn < 0) = s) (v : Int) (P Q : Int) (hP : (fn.natAbs : Int) * gd = P) (hQ : (gn.natAbs : Int) * fd = Q) (dp dq : Bool) (hdp : decide (P < Q) = dp) (hdq : decide (Q < P) = dq) (hv : v = if s = true then (if dp = true then 1 else if dq = true then -1 else 0) else (if dp = true then -1 else if dq = true then 1 else 0)) :
    Calls Try.prog 140 #[.agg #[.int .i64 fn, .int .i64 fd], .agg #[.int .i64 gn, .int .i64 gd]] w fun e w' => e = .returned (.int .i64 v) ∧ Below w.heap.size w w' := by
  obtain ⟨p1, p2⟩ := mul_bd (fn.natAbs : Int) gd 1000000000000000000 1000000000000000000 (by omega) (by omega) (by omega) (by omega)
  obtain ⟨r1, r2⟩ := mul_bd (gn.natAbs : Int) fd 1000000000000000000 1000000000000000000 (by omega) (by omega) (by omega) (by omega)
  have HTP := Lib.hid (fun W => l01Times_any (fn.natAbs : Int) gd W (by omega) (by omega) (by omega) (by omega))
  have HTQ := Lib.hid (fun W => l01Times_any (gn.natAbs : Int) fd W (by omega) (by omega) (by omega) (by omega))
  rw [hP] at HTP p1 p2
  rw [hQ] at HTQ r1 r2
  have p2 : P ≤ 100000000000000000000000000000000000000 := by omega
  have r2 : Q ≤ 100000000000000000000000000000000000000 := by omega
  have HL1 := Lib.hid (fun W => l01Less_any P Q W p1 p2 r1 r2)
  have HL2 := Lib.hid (fun W => l01Less_any Q P W r1 r2 p1 p2)
  rw [hdp] at HL1
  rw [hdq] at HL2
  have hno : ¬ (dp = true ∧ dq = true) := by rw [← hdp, ← hdq]; simp; omega
  clear hP hQ hdp hdq
  have na : IntKind.i64.wrap (-fn) = -fn := IntWalk.i64_in _ (by omega)
  have nc : IntKind.i64.wrap (-gn) = -gn := IntWalk.i64_in _ (by omega)
  generalize hi64 P = hp at *
  generalize lo64 P = lp at *
  generalize hi64 Q = hq at *
  generalize lo64 Q = lq at *
  have hss : (s != s) = false := by cases s <;> rfl
  have HV := Lib.hid hv
  clear hv
  have t0 := T2.new w (.int .i64 fn) (.int .i64 fd) (.int .i64 gn) (.int .i64 gd) 24
  have td := t0.drew
  have n0 := NB.new3 w (.int .i64 fn) (.int .i64 fd) (.int .i64 gn) (.int .i64 gd) (.int .u64 0) (.int .u64 0) 24 124
  have z0 := t0.c0
  have z1 := t0.c1
  have z2 := t0.c2
  have z3 := t0.c3
  go_enter Try.func140, Try.ntmps140
  go_wp2_with fail
  go_cut [5] from 8 to 47 (fun s5 w' => ∃ b, s5 = .pointer (some ⟨b, 0, none⟩) ∧ NB w w' b (.int .u64 hp) (.int .u64 lp) ∧ T2 w w' (.int .i64 fn) (.int .i64 fd) (.int .i64 gn) (.int .i64 gd))
  case first =>
    go_region_held3 (fun w' => w'.cell? ⟨w.heap.size, 0, none⟩ = some (.int .i64 fn) ∧ w'.cell? ⟨w.heap.size, 1, none⟩ = some (.int .i64 fd) ∧ w'.cell? ⟨w.heap.size + 1, 0, none⟩ = some (.int .i64 gn) ∧ w'.cell? ⟨w.heap.size + 1, 1, none⟩ = some (.int .i64 gd)) ((first | with_reducible assumption | with_reducible exact T2.all t8 | with_reducible exact T2.all (T2.alloc t8 _) | with_reducible exact T2.all (T2.set t8 b8 _ _) | with_reducible exact T2.all td | with_reducible exact T2.all (T2.drew (T2.alloc t0 _)) | fail))
      (first
        | (go_at_call_of 120 (Value.int .i64 fn); refine (l00Max_abs fn _).mono ?_; rintro e w' ⟨rfl, rfl⟩)
        | (go_at_call 121; refine (HTP.out _).mono ?_; rintro e w8 ⟨rfl, hb8⟩; (first | have t8 := T2.keep td hb8 | (have t8 := T2.keep (T2.drew (T2.alloc t0 _)) hb8; have b8 := NB.keep n0 hb8)); have y0 := t8.c0; have y1 := t8.c1; have y2 := t8.c2; have y3 := t8.c3; (try (have x0 := b8.c0; have x1 := b8.c1; have x2 := b8.f0; have x3 := b8.f1)))
        | fail)
    all_goals go_wp2_with fail
    all_goals first
      | (go_meet; case rel => exact ⟨_, rfl, t8.allocN _ _ _, t8.alloc _⟩)
      | (go_meet; case rel => exact ⟨_, rfl, b8.set _ _, t8.set b8 _ _⟩)
  case rest =>
    clear n0 td z0 z1 z2 z3 t0
    obtain ⟨bb, rfl, nb, tt⟩ := hcut
    have t0 : T4 w wc _ _ _ _ bb _ _ := ⟨tt, nb⟩
    clear tt nb
    have td := t0.drew
    have n0 := (T4.allocN t0 (.int .u64 0) (.int .u64 0) 124).drew
    have z0 := t0.c0
    have z1 := t0.c1
    have z2 := t0.c2
    have z3 := t0.c3
    go_wp2_with fail
    go_cut [6] from 8 to 47 (fun s6 w' => ∃ b, s6 = .pointer (some ⟨b, 0, none⟩) ∧ N2 w w' b bb (.int .u64 hq) (.int .u64 lq) ∧ T4 w w' (.int .i64 fn) (.int .i64 fd) (.int .i64 gn) (.int .i64 gd) bb (.int .u64 hp) (.int .u64 lp))
    case first =>
      go_region_held3 (fun w' => w'.cell? ⟨w.heap.size, 0, none⟩ = some (.int .i64 fn) ∧ w'.cell? ⟨w.heap.size, 1, none⟩ = some (.int .i64 fd) ∧ w'.cell? ⟨w.heap.size + 1, 0, none⟩ = some (.int .i64 gn) ∧ w'.cell? ⟨w.heap.size + 1, 1, none⟩ = some (.int .i64 gd)) ((first | with_reducible assumption | with_reducible exact T4.all t8 | with_reducible exact T4.all (T4.alloc t8 _) | with_reducible exact T4.all (T4.set t8 b8 _ _) | with_reducible exact T4.all td | with_reducible exact T4.all (T4.drew (T4.alloc t0 _)) | fail))
        (first
          | (go_at_call_of 120 (Value.int .i64 gn); refine (l00Max_abs gn _).mono ?_; rintro e w' ⟨rfl, rfl⟩)
          | (go_at_call 121; refine (HTQ.out _).mono ?_; rintro e w8 ⟨rfl, hb8⟩; (first | have t8 := T4.keep td hb8 | (have t8 := T4.keep (T4.drew (T4.alloc t0 _)) hb8; have b8 := N2.keep n0 hb8)); have y0 := t8.c0; have y1 := t8.c1; have y2 := t8.c2; have y3 := t8.c3; (try (have x0 := b8.c0; have x1 := b8.c1; have x2 := b8.f0; have x3 := b8.f1)))
          | fail)
      all_goals go_wp2_with fail
      all_goals first
        | (go_meet; case rel => exact ⟨_, rfl, t8.allocN _ _ _, t8.alloc _⟩)
        | (go_meet; case rel => exact ⟨_, rfl, b8.set _ _, t8.set b8 _ _⟩)
    case rest =>
      clear n0 td z0 z1 z2 z3 t0
      obtain ⟨b3, rfl, n3, t3⟩ := hcut
      have N3 := Lib.hid n3
      have T3 := Lib.hid t3
      have z0 := n3.c0
      have z1 := n3.c1
      have z2 := t3.2.c0
      have z3 := t3.2.c1
      clear n3 t3
      go_wp2_with fail
      refine (HL1.out _).mono ?_; rintro e w5 ⟨rfl, hb5⟩
      have N5 := Lib.hid (N3.out.keep hb5)
      have T5 := Lib.hid (T3.out.keep hb5)
      clear hb5 z0 z1 z2 z3
      have z0 := N5.out.c0
      have z1 := N5.out.c1
      have z2 := T5.out.2.c0
      have z3 := T5.out.2.c1
      cases dp
      · go_wp2_with fail
        refine (HL2.out _).mono ?_; rintro e w6 ⟨rfl, hb6⟩
        have T6 := Lib.hid (T5.out.keep hb6)
        clear hb6 z0 z1 z2 z3
        have z0 := T6.out.c0
        cases dq
        all_goals
          cases s
          all_goals
            have hvv := HV.out
            simp only [Bool.false_eq_true, if_true, if_false] at hvv
            go_wp2_with fail
            go_ret
            exact ⟨by rw [hvv]; rfl, T6.out.1.2.2⟩
      · go_wp2_with fail
        refine (HL2.out _).mono ?_; rintro e w6 ⟨rfl, hb6⟩
        have T6 := Lib.hid (T5.out.keep hb6)
        clear hb6 z0 z1 z2 z3
        have z0 := T6.out.c0
        have hq0 : dq = false := by cases dq <;> simp at hno ⊢
        subst hq0
        cases s
        all_goals
          have hvv := HV.out
          simp only [Bool.false_eq_true, if_true, if_false] at hvv
          go_wp2_with fail
          go_ret
          exact ⟨by rw [hvv]; rfl, T6.out.1.2.2⟩
end Go.Proofs.Ytmhdjimdhcephab
