/- The model's sum of fractions. -/
import Derived.Test.YtnpigefbdadjfaaWdA
import Derived.Test.YtnpigefbdadjfaaAdP
namespace Go.Proofs.Ytnpigefbdadjfaa
open Go Go.RowKit
set_option linter.unusedVariables false

/-- Two fractions, the result's box, and boxes made since. -/
def Fs (w W : World) (A B C D : Value) (L : List (Nat × Value × Value)) : Prop := T3 w W w.heap.size (w.heap.size + 1) (w.heap.size + 1 + 1) A B C D (.int .i64 0) (.int .i64 0) ∧ ∀ x ∈ L, w.heap.size + 1 + 1 < x.1 ∧ FBox W x.1 x.2.1 x.2.2
theorem Fs.keep {w W W' : World} {A B C D : Value} {L : List (Nat × Value × Value)} (h : Fs w W A B C D L) (hb : Below W.heap.size W W') : Fs w W' A B C D L := ⟨h.1.keep hb, fun x hx => ⟨(h.2 x hx).1, fbox_keep (h.2 x hx).2 hb⟩⟩
theorem Fs.alloc {w W : World} {A B C D : Value} {L : List (Nat × Value × Value)} (h : Fs w W A B C D L) (o : Obj) : Fs w (W.alloc o) A B C D L := h.keep ((Below.refl _ _).alloc (Nat.le_refl _) o)
theorem Fs.drew {w W : World} {A B C D : Value} {L : List (Nat × Value × Value)} (h : Fs w W A B C D L) : Fs w W.drew A B C D L := h.keep (Below.refl _ _).drew
theorem Fs.new {w W : World} {A B C D : Value} {L : List (Nat × Value × Value)} (h : Fs w W A B C D L) (X Y : Value) (t : TypeId) : Fs w (W.alloc (.cells #[X, Y] t)) A B C D ((W.heap.size, X, Y) :: L) := by
  refine ⟨(h.alloc _).1, fun x hx => ?_⟩
  rcases List.mem_cons.1 hx with rfl | hx
  · exact ⟨h.1.2.2.1.1.2.2, fbox_new W X Y t⟩
  · exact (h.alloc _).2 x hx
theorem Fs.newAt {w W : World} {A B C D : Value} {L : List (Nat × Value × Value)} (h : Fs w W A B C D L) (X Y : Value) (t : TypeId) (b : Nat) (hb : b = W.heap.size) : Fs w (W.alloc (.cells #[X, Y] t)) A B C D ((b, X, Y) :: L) := by subst hb; exact h.new X Y t
theorem Fs.set {w W : World} {A B C D : Value} {L : List (Nat × Value × Value)} {b : Nat} {x y : Value} (h : Fs w W A B C D ((b, x, y) :: L)) (hL : ∀ z ∈ L, z.1 ≠ b) (X Y : Value) : Fs w ((W.setCell ⟨b, 0, none⟩ X).setCell ⟨b, 1, none⟩ Y) A B C D ((b, X, Y) :: L) := by
  have hb := h.2 (b, x, y) (by simp)
  refine ⟨h.1.stored X Y (by have := hb.1; simp only at this; omega) (by have := hb.1; simp only at this; omega) hb.1 (by have := hb.1; simp only at this; omega), fun z hz => ?_⟩
  rcases List.mem_cons.1 hz with rfl | hz
  · exact ⟨hb.1, fbox_setF hb.2 X Y⟩
  · exact ⟨(h.2 z (by simp [hz])).1, fbox_set_far (h.2 z (by simp [hz])).2 (fun e => hL z hz e.symm) X Y⟩
theorem Fs.all {w W : World} {A B C D : Value} {L : List (Nat × Value × Value)} (h : Fs w W A B C D L) : W.cell? ⟨w.heap.size, 0, none⟩ = some A ∧ W.cell? ⟨w.heap.size, 1, none⟩ = some B ∧ W.cell? ⟨w.heap.size + 1, 0, none⟩ = some C ∧ W.cell? ⟨w.heap.size + 1, 1, none⟩ = some D := ⟨h.1.1.1.1, h.1.1.1.2.1, h.1.2.1.1.1, h.1.2.1.1.2.1⟩
theorem Fs.at {w W : World} {A B C D : Value} {L : List (Nat × Value × Value)} (h : Fs w W A B C D L) (b : Nat) (x y : Value) (hm : (b, x, y) ∈ L) : W.cell? ⟨b, 0, none⟩ = some x ∧ W.cell? ⟨b, 1, none⟩ = some y ∧ W.frozen? ⟨b, 0, none⟩ = false ∧ W.frozen? ⟨b, 1, none⟩ = false := ⟨(h.2 _ hm).2.1.1, (h.2 _ hm).2.1.2.1, (h.2 _ hm).2.2.1, (h.2 _ hm).2.2.2⟩
theorem Fs.lt {w W : World} {A B C D : Value} {L : List (Nat × Value × Value)} (h : Fs w W A B C D L) (b : Nat) (x y : Value) (hm : (b, x, y) ∈ L) : b < W.heap.size := (h.2 _ hm).2.1.2.2
theorem Fs.first (w : World) (A B C D : Value) (t : TypeId) : Fs w (((w.alloc (.cells #[A, B] t)).alloc (.cells #[C, D] t)).alloc (.cells #[.int .i64 0, .int .i64 0] t)) A B C D [] := by
  refine ⟨⟨?_, ?_, ?_, ?_⟩, fun x hx => by cases hx⟩
  · exact fbox_alloc (fbox_alloc (fbox_new w A B t) _) _
  · have := fbox_alloc (fbox_new (w.alloc (.cells #[A, B] t)) C D t) (.cells #[.int .i64 0, .int .i64 0] t)
    simpa using this
  · have := fbox_new ((w.alloc (.cells #[A, B] t)).alloc (.cells #[C, D] t)) (.int .i64 0) (.int .i64 0) t
    simpa using this
  · exact balloc (balloc (balloc (Below.refl w.heap.size w) _) _) _

theorem ad_cases (fn gn : Int) (ea eb X Y : Nat) (T : Int) (hT : T = fn * (ea : Int) + gn * (eb : Int)) (hX : X = fn.natAbs * ea) (hY : Y = gn.natAbs * eb) :
    ∃ P Q : Int, T = P + Q ∧ X = P.natAbs ∧ Y = Q.natAbs ∧ (fn < 0 → P ≤ 0) ∧ (¬ fn < 0 → 0 ≤ P) ∧ (gn < 0 → Q ≤ 0) ∧ (¬ gn < 0 → 0 ≤ Q) := by
  refine ⟨fn * ea, gn * eb, hT, by rw [hX, Int.natAbs_mul]; simp, by rw [hY, Int.natAbs_mul]; simp, ?_, ?_, ?_, ?_⟩
  · exact fun h => Int.mul_nonpos_of_nonpos_of_nonneg (by omega) (by omega)
  · exact fun h => Int.mul_nonneg (by omega) (by omega)
  · exact fun h => Int.mul_nonpos_of_nonpos_of_nonneg (by omega) (by omega)
  · exact fun h => Int.mul_nonneg (by omega) (by omega)
theorem ovV_sign (T : Int) (S : Nat) (m : Bool) (h : m = true → T ≤ 0) (h' : m = false → 0 ≤ T) : ovV T S = if m = true then -((T.natAbs / S : Nat) : Int) else ((T.natAbs / S : Nat) : Int) := by
  unfold ovV
  cases m
  · have := h' rfl
    rw [if_neg (by omega), if_neg (by simp)]
  · have := h rfl
    rw [if_pos rfl]
    split
    · rfl
    · have e : T.natAbs = 0 := by omega
      rw [e, Nat.zero_div]; rfl
theorem cop_part {a b x y : Nat} (hb : 0 < b) (h1 : Nat.gcd x y = 1) (h2 : Nat.gcd a b = 1) (he : a * y = x * b) : b = y := by
  have e1 : b ∣ y := by
    have : b ∣ a * y := ⟨x, by rw [he, Nat.mul_comm]⟩
    exact (Nat.Coprime.symm h2).dvd_of_dvd_mul_left this
  have e2 : y ∣ b := by
    have : y ∣ x * b := ⟨a, by rw [← he, Nat.mul_comm]⟩
    exact (Nat.Coprime.symm h1).dvd_of_dvd_mul_left this
  exact Nat.dvd_antisymm e1 e2
/-- A sum that is nothing has one behind it. -/
theorem ad_zero (fn gn : Int) (fd gd : Nat) (hf : Nat.gcd fn.natAbs fd = 1) (hg : Nat.gcd gn.natAbs gd = 1) (f0 : 0 < fd) (g0 : 0 < gd) (h : adT fn gn fd gd = 0) : adM fn gn fd gd = 1 := by
  have hd0 : 0 < Nat.gcd fd gd := Nat.gcd_pos_of_pos_left _ f0
  obtain ⟨P, Q, hT, hX, hY, -⟩ := ad_cases fn gn (gd / Nat.gcd fd gd) (fd / Nat.gcd fd gd) _ _ _ rfl rfl rfl
  have hz : P + Q = 0 := by rw [← hT]; exact h
  have e : fn.natAbs * (gd / Nat.gcd fd gd) = gn.natAbs * (fd / Nat.gcd fd gd) := by omega
  have e1 : fd / Nat.gcd fd gd * Nat.gcd fd gd = fd := Nat.div_mul_cancel (Nat.gcd_dvd_left _ _)
  have e2 : gd / Nat.gcd fd gd * Nat.gcd fd gd = gd := Nat.div_mul_cancel (Nat.gcd_dvd_right _ _)
  have e3 : fn.natAbs * gd = gn.natAbs * fd := by
    calc fn.natAbs * gd = fn.natAbs * (gd / Nat.gcd fd gd) * Nat.gcd fd gd := by rw [Nat.mul_assoc, e2]
      _ = gn.natAbs * (fd / Nat.gcd fd gd) * Nat.gcd fd gd := by rw [e]
      _ = gn.natAbs * fd := by rw [Nat.mul_assoc, e1]
  have e4 : fd = gd := cop_part f0 hg hf e3
  subst e4
  have e5 : adS fn gn fd fd = fd := by unfold adS; rw [h, Nat.gcd_self]; simp
  unfold adM
  rw [e5, Nat.gcd_self, Nat.div_self f0]; rfl

set_option maxHeartbeats 4000000 in
set_option maxRecDepth 100000 in
theorem l01FAdd_any (fn gn : Int) (fd gd : Nat) (w : World) (hf : fIs fn fd = true) (hg : fIs gn gd = true) :
    Calls Try.prog 84 #[.agg #[.int .i64 fn, .int .i64 fd], .agg #[.int .i64 gn, .int .i64 gd]] w fun e w' => e = .returned (.tuple #[.agg #[.int .i64 (foN (adN fn gn fd gd) (adM fn gn fd gd)), .int .i64 (foD (adN fn gn fd gd) (adM fn gn fd gd))], .bool (ptB (adN fn gn fd gd) && ptB (adM fn gn fd gd))]) ∧ Below w.heap.size w w' := by
  have HF := Lib.hid hf
  have HG := Lib.hid hg
  obtain ⟨⟨f3, f4⟩, f1, f2⟩ := fIs_bd hf
  obtain ⟨⟨g3, g4⟩, g1, g2⟩ := fIs_bd hg
  have hd0 : 0 < Nat.gcd fd gd := Nat.gcd_pos_of_pos_left _ (by omega)
  have hd1 : Nat.gcd fd gd ≤ fd := Nat.gcd_le_left _ (by omega)
  have HC1 := Lib.hid (fun W => l01Gcd_any (fd : Int) (gd : Int) W (by omega) (by omega) (by omega) (by omega))
  simp only [Int.toNat_natCast] at HC1
  obtain ⟨d, hd⟩ : ∃ d, d = Nat.gcd fd gd := ⟨_, rfl⟩
  obtain ⟨S, hS⟩ : ∃ S, S = adS fn gn fd gd := ⟨_, rfl⟩
  obtain ⟨T, hT⟩ : ∃ T, T = adT fn gn fd gd := ⟨_, rfl⟩
  have hS' : S = Nat.gcd d (T.natAbs % d) := by rw [hS, hT, hd, Nat.gcd_comm]; rfl
  rw [← hd] at hd0 hd1 HC1
  have hs0 : 0 < S := by rw [hS']; exact Nat.gcd_pos_of_pos_left _ hd0
  have hs1 : S ≤ d := by rw [hS']; exact Nat.gcd_le_left _ hd0
  have he1 := Nat.div_le_self gd d
  have he2 := Nat.div_le_self fd d
  have he3 := Nat.div_le_self gd S
  have hr1 := Nat.mod_lt T.natAbs hd0
  have c6 : IntKind.i64.wrap (Int.tdiv (gd : Int) (d : Int)) = ((gd / d : Nat) : Int) := by
    rw [tdiv_nat]; generalize gd / d = x at *; exact IntWalk.i64_in _ (by omega)
  have c7 : IntKind.i64.wrap (Int.tdiv (fd : Int) (d : Int)) = ((fd / d : Nat) : Int) := by
    rw [tdiv_nat]; generalize fd / d = x at *; exact IntWalk.i64_in _ (by omega)
  have c8 : IntKind.i64.wrap (Int.tdiv (gd : Int) (S : Int)) = ((gd / S : Nat) : Int) := by
    rw [tdiv_nat]; generalize gd / S = x at *; exact IntWalk.i64_in _ (by omega)
  have hTe : T = fn * ((gd / d : Nat) : Int) + gn * ((fd / d : Nat) : Int) := by rw [hT, hd]; rfl
  have eN : adN fn gn fd gd = ovV T S := by rw [hS, hT]; rfl
  have eM : adM fn gn fd gd = ((fd / d : Nat) : Int) * ((gd / S : Nat) : Int) := by rw [hS, hd]; rfl
  have HZ : Hid (T = 0 → ((fd / d : Nat) : Int) * ((gd / S : Nat) : Int) = 1) := by
    show _ → _
    intro h
    rw [← eM]
    exact ad_zero fn gn fd gd (of_decide_eq_true hf).2.2.2.2 (of_decide_eq_true hg).2.2.2.2 (by omega) (by omega) (by rw [← hT]; exact h)
  rw [eN, eM]
  clear eN eM
  have na : IntKind.i64.wrap (-fn) = -fn := IntWalk.i64_in _ (by omega)
  have nc : IntKind.i64.wrap (-gn) = -gn := IntWalk.i64_in _ (by omega)
  clear hS hT hd
  generalize gd / d = ea at *
  generalize fd / d = eb at *
  generalize gd / S = ec at *
  obtain ⟨X, hX⟩ : ∃ X : Nat, X = fn.natAbs * ea := ⟨_, rfl⟩
  obtain ⟨Y, hY⟩ : ∃ Y : Nat, Y = gn.natAbs * eb := ⟨_, rfl⟩
  have HTX := Lib.hid (fun W => l01Times_any (fn.natAbs : Int) (ea : Int) W (by omega) (by omega) (by omega) (by omega))
  have HTY := Lib.hid (fun W => l01Times_any (gn.natAbs : Int) (eb : Int) W (by omega) (by omega) (by omega) (by omega))
  rw [show (fn.natAbs : Int) * (ea : Int) = (X : Int) by rw [hX]; simp] at HTX
  rw [show (gn.natAbs : Int) * (eb : Int) = (Y : Int) by rw [hY]; simp] at HTY
  have c1 : IntKind.i64.wrap (fd : Int) = (fd : Int) := IntWalk.i64_in _ (by omega)
  have z1 : ((d : Int) == 0) = false := beq_f (by omega)
  have z2 : ((S : Int) == 0) = false := beq_f (by omega)
  have t0 := Fs.first w (.int .i64 fn) (.int .i64 fd) (.int .i64 gn) (.int .i64 gd) 56
  have td := t0.drew
  have n0 := (t0.newAt (.int .u64 0) (.int .u64 0) 134 (w.heap.size + 1 + 1 + 1) (by simp)).drew
  have hne : Hid (∀ z ∈ ([] : List (Nat × Value × Value)), z.1 ≠ w.heap.size + 1 + 1 + 1) := fun z hz => by cases hz
  obtain ⟨y0, y1, y2, y3⟩ := t0.all
  have TT := Lib.hid (And.intro hTe (And.intro hS' (And.intro hX hY)))
  have HH := Lib.hid (And.intro he1 (And.intro he2 (And.intro he3 (And.intro hr1 (And.intro hs1 hd1)))))
  have z5 : ¬ (d : Int) = 0 := by omega
  have z6 : ¬ (S : Int) = 0 := by omega
  have Z1 := Lib.hid hd0
  have Z2 := Lib.hid hs0
  clear hTe hS' hX hY he1 he2 he3 hr1 hs1 hd1 hd0 hs0 hf hg
  obtain ⟨Hx, hHx⟩ : ∃ H, H = hi64 (X : Int) := ⟨_, rfl⟩
  obtain ⟨Lx, hLx⟩ : ∃ H, H = lo64 (X : Int) := ⟨_, rfl⟩
  obtain ⟨Hy, hHy⟩ : ∃ H, H = hi64 (Y : Int) := ⟨_, rfl⟩
  obtain ⟨Ly, hLy⟩ : ∃ H, H = lo64 (Y : Int) := ⟨_, rfl⟩
  rw [← hHx, ← hLx] at HTX
  rw [← hHy, ← hLy] at HTY
  have HW := Lib.hid (And.intro hHx (And.intro hLx (And.intro hHy hLy)))
  clear hHx hLx hHy hLy
  have z3 : (0 : Int) < (d : Int) := by have := Z1.out; omega
  have z4 : (0 : Int) < (S : Int) := by have := Z2.out; omega
  generalize hFD : (fd : Int) = FD at *
  generalize hGD : (gd : Int) = GD at *
  generalize hDD : (d : Int) = DD at *
  generalize hSS : (S : Int) = SS at *
  generalize hEA : (ea : Int) = EA at *
  generalize hEB : (eb : Int) = EB at *
  generalize hEC : (ec : Int) = EC at *
  have HE := Lib.hid (And.intro hFD (And.intro hGD (And.intro hDD (And.intro hSS (And.intro hEA (And.intro hEB hEC))))))
  clear hFD hGD hDD hSS hEA hEB hEC
  go_enter Try.func84, Try.ntmps84
  go_wp2_with fail
  refine (HC1.out _).mono ?_; rintro e w' ⟨rfl, rfl⟩
  go_wp2_with fail
  go_cut [7] from 8 to 122 (fun s w' => ∃ b, s = .pointer (some ⟨b, 0, none⟩) ∧ Fs w w' (.int .i64 fn) (.int .i64 FD) (.int .i64 gn) (.int .i64 GD) ((b, .int .u64 Hx, .int .u64 Lx) :: []))
  case first =>
    go_region_held3 (fun w' => w'.cell? ⟨w.heap.size, 0, none⟩ = some (.int .i64 fn) ∧ w'.cell? ⟨w.heap.size, 1, none⟩ = some (.int .i64 FD) ∧ w'.cell? ⟨w.heap.size + 1, 0, none⟩ = some (.int .i64 gn) ∧ w'.cell? ⟨w.heap.size + 1, 1, none⟩ = some (.int .i64 GD)) ((first | with_reducible assumption | with_reducible exact Fs.all t8 | with_reducible exact Fs.all (Fs.new t8 _ _ _) | with_reducible exact Fs.all (Fs.set t8 hne.out _ _) | with_reducible exact Fs.all td | with_reducible exact Fs.all n0 | fail))
      (first
        | (go_at_call_of 101 (Value.int .i64 fn); refine (l00Max_abs fn _).mono ?_; rintro e w' ⟨rfl, rfl⟩)
        | (go_at_call 102; refine (HTX.out _).mono ?_; rintro e w8 ⟨rfl, hb8⟩; (first | have t8 := Fs.keep td hb8 | (have t8 := Fs.keep n0 hb8; obtain ⟨x0, x1, x2, x3⟩ := t8.at _ _ _ (List.mem_cons_self))); obtain ⟨y0, y1, y2, y3⟩ := t8.all)
        | fail)
    all_goals go_wp2_with fail
    all_goals first
      | (go_meet; case rel => exact ⟨_, rfl, t8.new _ _ _⟩)
      | (go_meet; case rel => exact ⟨_, rfl, t8.set hne.out _ _⟩)
  case rest =>
    clear n0 td t0 y0 y1 y2 y3 hne
    obtain ⟨b1, rfl, t0⟩ := hcut
    have td := t0.drew
    have n0 := (t0.newAt (.int .u64 0) (.int .u64 0) 134 wc.heap.size rfl).drew
    have hne : Hid (∀ z ∈ ([(b1, .int .u64 Hx, .int .u64 Lx)] : List (Nat × Value × Value)), z.1 ≠ wc.heap.size) := fun z hz => by
      have hl := t0.lt _ _ _ (List.mem_cons_self)
      rcases List.mem_cons.1 hz with rfl | hz
      · show b1 ≠ _; omega
      · cases hz
    obtain ⟨y0, y1, y2, y3⟩ := t0.all
    go_wp2_with fail
    go_cut [8] from 9 to 122 (fun s w' => ∃ b, s = .pointer (some ⟨b, 0, none⟩) ∧ b1 ≠ b ∧ Fs w w' (.int .i64 fn) (.int .i64 FD) (.int .i64 gn) (.int .i64 GD) ((b, .int .u64 Hy, .int .u64 Ly) :: [(b1, .int .u64 Hx, .int .u64 Lx)]))
    case first =>
      go_region_held3 (fun w' => w'.cell? ⟨w.heap.size, 0, none⟩ = some (.int .i64 fn) ∧ w'.cell? ⟨w.heap.size, 1, none⟩ = some (.int .i64 FD) ∧ w'.cell? ⟨w.heap.size + 1, 0, none⟩ = some (.int .i64 gn) ∧ w'.cell? ⟨w.heap.size + 1, 1, none⟩ = some (.int .i64 GD)) ((first | with_reducible assumption | with_reducible exact Fs.all t8 | with_reducible exact Fs.all (Fs.new t8 _ _ _) | with_reducible exact Fs.all (Fs.set t8 hne.out _ _) | with_reducible exact Fs.all td | with_reducible exact Fs.all n0 | fail))
        (first
          | (go_at_call_of 101 (Value.int .i64 gn); refine (l00Max_abs gn _).mono ?_; rintro e w' ⟨rfl, rfl⟩)
          | (go_at_call 102; refine (HTY.out _).mono ?_; rintro e w8 ⟨rfl, hb8⟩; (first | have t8 := Fs.keep td hb8 | (have t8 := Fs.keep n0 hb8; obtain ⟨x0, x1, x2, x3⟩ := t8.at _ _ _ (List.mem_cons_self))); obtain ⟨y0, y1, y2, y3⟩ := t8.all)
          | fail)
      all_goals go_wp2_with fail
      all_goals first
        | (go_meet; case rel => exact ⟨_, rfl, Nat.ne_of_lt (t8.lt b1 (.int .u64 Hx) (.int .u64 Lx) (List.mem_cons_self)), t8.new _ _ _⟩)
        | (go_meet; case rel => exact ⟨_, rfl, hne.out _ (List.mem_cons_self), t8.set hne.out _ _⟩)
    case rest =>
      clear n0 td t0 y0 y1 y2 y3 hne
      obtain ⟨b2, rfl, hb12, t0⟩ := hcut
      obtain ⟨y0, y1, y2, y3⟩ := t0.all
      obtain ⟨u0, u1, u2, u3⟩ := t0.at b1 (.int .u64 Hx) (.int .u64 Lx) (by simp)
      obtain ⟨v0, v1, v2, v3⟩ := t0.at b2 (.int .u64 Hy) (.int .u64 Ly) (by simp)
      --REST
      obtain ⟨TN, hTN⟩ : ∃ TN, TN = T.natAbs := ⟨_, rfl⟩
      have HTN := Lib.hid hTN
      obtain ⟨q, hq⟩ : ∃ q, q = TN / S := ⟨_, rfl⟩
      obtain ⟨r, hr⟩ : ∃ r, r = TN % d := ⟨_, rfl⟩
      obtain ⟨M, hM⟩ : ∃ M : Nat, M = eb * ec := ⟨_, rfl⟩
      obtain ⟨hFD, hGD, hDD, hSS, hEA, hEB, hEC⟩ := HE.out
      obtain ⟨hTe, hSe, hXe, hYe⟩ := TT.out
      obtain ⟨hHx, hLx, hHy, hLy⟩ := HW.out
      obtain ⟨he1, he2, he3, hr1, hs1, hd1⟩ := HH.out
      have hd0 := Z1.out
      have hs0 := Z2.out
      obtain ⟨P, Q, hT, hX, hY, hp1, hp2, hq1, hq2⟩ := ad_cases fn gn ea eb X Y T (by rw [hEA, hEB]; exact hTe) hXe hYe
      have bX : X ≤ 1000000000000000000000000000000000000 := by
        have := Nat.mul_le_mul (show fn.natAbs ≤ 1000000000000000000 by omega) (show ea ≤ 1000000000000000000 by omega)
        omega
      have bY : Y ≤ 1000000000000000000000000000000000000 := by
        have := Nat.mul_le_mul (show gn.natAbs ≤ 1000000000000000000 by omega) (show eb ≤ 1000000000000000000 by omega)
        omega
      have bM : M ≤ 1000000000000000000000000000000000000 := by
        have := Nat.mul_le_mul (show eb ≤ 1000000000000000000 by omega) (show ec ≤ 1000000000000000000 by omega)
        omega
      have bT : TN ≤ 2000000000000000000000000000000000000 := by omega
      have br : r < d := by rw [hr, hTN]; exact hr1
      have bq : q ≤ TN := by rw [hq]; exact Nat.div_le_self _ _
      obtain ⟨Ht, hHt⟩ : ∃ H, H = hi64 (TN : Int) := ⟨_, rfl⟩
      obtain ⟨Lt, hLt⟩ : ∃ H, H = lo64 (TN : Int) := ⟨_, rfl⟩
      obtain ⟨Hu, hHu⟩ : ∃ H, H = hi64 ((TN / d : Nat) : Int) := ⟨_, rfl⟩
      obtain ⟨Lu, hLu⟩ : ∃ H, H = lo64 ((TN / d : Nat) : Int) := ⟨_, rfl⟩
      obtain ⟨Hq, hHq⟩ : ∃ H, H = hi64 (q : Int) := ⟨_, rfl⟩
      obtain ⟨Lq, hLq⟩ : ∃ H, H = lo64 (q : Int) := ⟨_, rfl⟩
      obtain ⟨Hm, hHm⟩ : ∃ H, H = hi64 (M : Int) := ⟨_, rfl⟩
      obtain ⟨Lm, hLm⟩ : ∃ H, H = lo64 (M : Int) := ⟨_, rfl⟩
      have HSp1 := Lib.hid (fun W => l01Split_any TN d W (by omega) hd0 (by omega))
      rw [← hHt, ← hLt, ← hHu, ← hLu, ← hr, hDD] at HSp1
      have HSp2 := Lib.hid (fun W => l01Split_any TN S W (by omega) hs0 (by omega))
      rw [← hHt, ← hLt, ← hq, ← hHq, ← hLq, hSS] at HSp2
      have HG2 := Lib.hid (fun W => l01Gcd_any (d : Int) (r : Int) W (by omega) (by omega) (by omega) (by omega))
      rw [Int.toNat_natCast, Int.toNat_natCast, show Nat.gcd d r = S by rw [hSe, hr, hTN], hDD, hSS] at HG2
      have HSm1 := Lib.hid (fun W => l01Small_any (q : Int) W (by omega) (by omega))
      rw [← hHq, ← hLq] at HSm1
      have HT3 := Lib.hid (fun W => l01Times_any (eb : Int) (ec : Int) W (by omega) (by omega) (by omega) (by omega))
      rw [show (eb : Int) * (ec : Int) = (M : Int) by rw [hM]; simp, ← hHm, ← hLm, hEB, hEC] at HT3
      have HSm2 := Lib.hid (fun W => l01Small_any (M : Int) W (by omega) (by omega))
      rw [← hHm, ← hLm] at HSm2
      have HPL := Lib.hid (fun (h : (X : Int) + (Y : Int) = (TN : Int)) W => (by have := l01Plus_any (X : Int) (Y : Int) W; rw [h, ← hHx, ← hLx, ← hHy, ← hLy, ← hHt, ← hLt] at this; exact this : Calls Try.prog 103 #[.agg #[.int .u64 Hx, .int .u64 Lx], .agg #[.int .u64 Hy, .int .u64 Ly]] W fun e w' => e = .returned (.agg #[.int .u64 Ht, .int .u64 Lt]) ∧ Below W.heap.size W w'))
      have HM1 := Lib.hid (fun (h : (Y : Int) - (X : Int) = (TN : Int)) W => (by have := l01Minus_any (Y : Int) (X : Int) W; rw [h, ← hHx, ← hLx, ← hHy, ← hLy, ← hHt, ← hLt] at this; exact this : Calls Try.prog 105 #[.agg #[.int .u64 Hy, .int .u64 Ly], .agg #[.int .u64 Hx, .int .u64 Lx]] W fun e w' => e = .returned (.agg #[.int .u64 Ht, .int .u64 Lt]) ∧ Below W.heap.size W w'))
      have HM2 := Lib.hid (fun (h : (X : Int) - (Y : Int) = (TN : Int)) W => (by have := l01Minus_any (X : Int) (Y : Int) W; rw [h, ← hHx, ← hLx, ← hHy, ← hLy, ← hHt, ← hLt] at this; exact this : Calls Try.prog 105 #[.agg #[.int .u64 Hx, .int .u64 Lx], .agg #[.int .u64 Hy, .int .u64 Ly]] W fun e w' => e = .returned (.agg #[.int .u64 Ht, .int .u64 Lt]) ∧ Below W.heap.size W w'))
      have HLS := Lib.hid (fun W => l01Less_any (X : Int) (Y : Int) W (by omega) (by omega) (by omega) (by omega))
      rw [← hHx, ← hLx, ← hHy, ← hLy] at HLS
      -- the answer
      have HANS : Hid (∀ m : Bool, (m = true → T ≤ 0) → (m = false → 0 ≤ T) → ((smB q && smB M) = true → foN (ovV T S) ((EB : Int) * EC) = (if m = true then -(q : Int) else (q : Int)) ∧ foD (ovV T S) ((EB : Int) * EC) = (if (q : Int) = 0 then 1 else (M : Int)) ∧ smV q = q ∧ smV M = M ∧ 0 ≤ (q : Int) ∧ (q : Int) ≤ 1000000000000000000) ∧ ((smB q && smB M) = false → foN (ovV T S) ((EB : Int) * EC) = 0 ∧ foD (ovV T S) ((EB : Int) * EC) = 0) ∧ (ptB (ovV T S) && ptB ((EB : Int) * EC)) = (smB q && smB M)) := by
        show ∀ m : Bool, _
        intro m hm hm'
        have ev := ovV_sign T S m hm hm'
        rw [← hTN, ← hq] at ev
        have eM : (EB : Int) * EC = (M : Int) := by rw [← hEB, ← hEC, hM]; simp
        have p1 : ptB (ovV T S) = smB q := by rw [ev]; unfold ptB smB; cases m <;> simp <;> omega
        have p2 : ptB ((EB : Int) * EC) = smB M := by rw [eM]; exact (small_pos (by omega)).symm
        refine ⟨fun h => ?_, fun h => ?_, by rw [p1, p2]⟩
        · rw [Bool.and_eq_true] at h
          have a1 : foN (ovV T S) ((EB : Int) * EC) = ovV T S := if_pos ⟨by rw [p1]; exact h.1, by rw [p2]; exact h.2⟩
          have a2 : foD (ovV T S) ((EB : Int) * EC) = (EB : Int) * EC := if_pos ⟨by rw [p1]; exact h.1, by rw [p2]; exact h.2⟩
          refine ⟨a1.trans ev, a2.trans ?_, if_pos (of_decide_eq_true h.1), if_pos (of_decide_eq_true h.2), by omega, of_decide_eq_true h.1⟩
          rw [eM]
          split
          · rename_i hq0
            have hq0' : q = 0 := by omega
            have hdv : S ∣ TN := by
              have h1 : S ∣ d := by rw [hSe]; exact Nat.gcd_dvd_left _ _
              have h2 : S ∣ TN % d := by rw [hSe, hTN]; exact Nat.gcd_dvd_right _ _
              exact (Nat.dvd_mod_iff h1).1 h2
            have hT0 : TN = 0 := by
              have := Nat.div_mul_cancel hdv
              rw [← hq, hq0'] at this; omega
            rw [← eM]; exact HZ.out (by omega)
          · rfl
        · have hn : ¬ (ptB (ovV T S) = true ∧ ptB ((EB : Int) * EC) = true) := by
            rw [p1, p2]; intro hh; rw [hh.1, hh.2] at h; exact absurd h (by decide)
          exact ⟨if_neg hn, if_neg hn⟩
      have HPQ := Lib.hid (And.intro hT (And.intro hX (And.intro hY (And.intro hp1 (And.intro hp2 (And.intro hq1 hq2))))))
      clear v0 v1 v2 v3 u0 u1 u2 u3 hTN hq hr hM hFD hGD hDD hSS hEA hEB hEC hTe hSe hXe hYe hHx hLx hHy hLy he1 he2 he3 hr1 hs1 hd1 hd0 hs0 hT hX hY hp1 hp2 hq1 hq2 bX bY bM bT bq br hHt hLt hHu hLu hHq hLq hHm hLm
      generalize hRN : foN (ovV T S) (EB * EC) = RN at *
      generalize hRD : foD (ovV T S) (EB * EC) = RD at *
      generalize hRB : (ptB (ovV T S) && ptB (EB * EC)) = RB at *
      have HRN := Lib.hid (And.intro hRN (And.intro hRD hRB))
      clear hRN hRD hRB
      generalize smV (q : Int) = V1 at *
      generalize smV (M : Int) = V2 at *
      generalize smB (q : Int) = B1 at *
      generalize smB (M : Int) = B2 at *
      generalize (r : Int) = ri at *
      generalize (q : Int) = qi at *
      generalize (M : Int) = mi at *
      have n3 := t0.newAt (.int .u64 0) (.int .u64 0) 134 wc.heap.size rfl
      obtain ⟨m0, m1, m2, m3⟩ := n3.all
      obtain ⟨u0, u1, u2, u3⟩ := n3.at b1 (.int .u64 Hx) (.int .u64 Lx) (by simp)
      obtain ⟨v0, v1, v2, v3⟩ := n3.at b2 (.int .u64 Hy) (.int .u64 Ly) (by simp)
      obtain ⟨x0, x1, x2, x3⟩ := n3.at wc.heap.size (.int .u64 0) (.int .u64 0) (by simp)
      have hne3 : Hid (∀ z ∈ ([(b2, .int .u64 Hy, .int .u64 Ly), (b1, .int .u64 Hx, .int .u64 Lx)] : List (Nat × Value × Value)), z.1 ≠ wc.heap.size) := fun z hz => by
        have hl1 := t0.lt b1 (.int .u64 Hx) (.int .u64 Lx) (by simp)
        have hl2 := t0.lt b2 (.int .u64 Hy) (.int .u64 Ly) (by simp)
        rcases List.mem_cons.1 hz with rfl | hz
        · show b2 ≠ _; omega
        · rcases List.mem_cons.1 hz with rfl | hz
          · show b1 ≠ _; omega
          · cases hz
      clear y0 y1 y2 y3
      obtain ⟨y0, y1, y2, y3⟩ := t0.all
      by_cases hs : fn < 0
      · by_cases hs2 : gn < 0
        · have hE : (X : Int) + (Y : Int) = (TN : Int) := by obtain ⟨hT, hX, hY, hp1, hp2, hq1, hq2⟩ := HPQ.out; have := HTN.out; have := hp1 hs; have := hq1 hs2; omega
          have hm1 : Hid (T ≤ 0) := by obtain ⟨hT, hX, hY, hp1, hp2, hq1, hq2⟩ := HPQ.out; have := hp1 hs; have := hq1 hs2; show T ≤ 0; omega
          have HP := Lib.hid (HPL.out hE)
          clear hE
          go_wp2_with fail
          refine (HP.out _).mono ?_; rintro e w5 ⟨rfl, hb5⟩
          have t5a := n3.keep hb5
          obtain ⟨s0, s1, s2, s3⟩ := t5a.at wc.heap.size (.int .u64 0) (.int .u64 0) (by simp)
          have t5 := t5a.set hne3.out (.int .u64 Ht) (.int .u64 Lt)
          clear hb5 m0 m1 m2 m3 x0 x1 x2 x3 u0 u1 u2 u3 v0 v1 v2 v3
          obtain ⟨y0, y1, y2, y3⟩ := t5.all
          obtain ⟨x0, x1, -, -⟩ := t5.at wc.heap.size (.int .u64 Ht) (.int .u64 Lt) (by simp)
          go_wp2_with fail
          refine (HSp1.out _).mono ?_; rintro e w6 ⟨rfl, hb6⟩
          have t6 := (t5.keep hb6).new (.int .u64 Hu) (.int .u64 Lu) 134
          clear hb6 y0 y1 y2 y3 x0 x1
          obtain ⟨y0, y1, y2, y3⟩ := t6.all
          obtain ⟨x0, x1, -, -⟩ := t6.at wc.heap.size (.int .u64 Ht) (.int .u64 Lt) (by simp)
          go_wp2_with fail
          refine (HG2.out _).mono ?_; rintro e w' ⟨rfl, rfl⟩
          go_wp2_with fail
          refine (HSp2.out _).mono ?_; rintro e w7 ⟨rfl, hb7⟩
          have t7 := (t6.keep hb7).new (.int .u64 Hq) (.int .u64 Lq) 134
          clear hb7 y0 y1 y2 y3 x0 x1
          obtain ⟨y0, y1, y2, y3⟩ := t7.all
          go_wp2_with fail
          refine (HSm1.out _).mono ?_; rintro e w8 ⟨rfl, hb8⟩
          have t8 := t7.keep hb8
          clear hb8 y0 y1 y2 y3
          obtain ⟨y0, y1, y2, y3⟩ := t8.all
          go_wp2_with fail
          go_region_held3 (fun w' => w'.cell? ⟨w.heap.size, 1, none⟩ = some (.int .i64 FD) ∧ w'.cell? ⟨w.heap.size + 1, 1, none⟩ = some (.int .i64 GD)) (simp [*])
            (first
              | (go_at_call 102; refine (HT3.out _).mono ?_; rintro e w9 ⟨rfl, hb9⟩; have t9 := (t8.drew).keep hb9; obtain ⟨o0, o1, o2, o3⟩ := t9.all)
              | (go_at_call 107; refine (HSm2.out _).mono ?_; rintro e wA ⟨rfl, hbA⟩; have tA := t9.keep hbA; obtain ⟨p0, p1, p2, p3⟩ := tA.all))
          have tZ := Lib.hid tA
          clear t5 t6 t7 t8 t9 hb9 hbA o0 o1 o2 o3 y0 y1 y2 y3
          obtain ⟨⟨-, -, ⟨⟨k0, k1, -⟩, k2, k3⟩, kb⟩, -⟩ := tZ.out
          obtain ⟨ans1, ans2, ans3⟩ := HANS.out true (fun _ => hm1.out) (fun h => absurd h (by decide))
          cases B1
          · obtain ⟨rn, rd⟩ := ans2 rfl
            have rb : RB = false := ans3.trans rfl
            clear ans1 ans2 ans3
            go_wp2_with fail
            refine bodyPost_ret (v := .tuple #[.agg #[.int .i64 0, .int .i64 0], .bool false]) (by simp [results, Try.results84, go_sem, k0, k1]) rfl ⟨by rw [HRN.out.1, HRN.out.2.1, HRN.out.2.2, rn, rd, rb], ?_⟩
            exact (kb.setCell (by simp; omega) _).setCell (by simp; omega) _
          · cases B2
            · obtain ⟨rn, rd⟩ := ans2 rfl
              have rb : RB = false := ans3.trans rfl
              clear ans1 ans2 ans3
              go_wp2_with fail
              refine bodyPost_ret (v := .tuple #[.agg #[.int .i64 0, .int .i64 0], .bool false]) (by simp [results, Try.results84, go_sem, k0, k1]) rfl ⟨by rw [HRN.out.1, HRN.out.2.1, HRN.out.2.2, rn, rd, rb], ?_⟩
              exact (kb.setCell (by simp; omega) _).setCell (by simp; omega) _
            · obtain ⟨rn, rd, rv1, rv2, nz0, nz1⟩ := ans1 rfl
              have rb : RB = true := ans3.trans rfl
              have nz : IntKind.i64.wrap (-qi) = -qi := IntWalk.i64_in _ (by omega)
              subst rv1 rv2
              clear ans1 ans2 ans3
              by_cases hz : V1 = 0
              · rw [if_pos hz] at rd
                rw [if_pos rfl] at rn
                subst hz
                go_wp2_with fail
                refine bodyPost_ret (v := .tuple #[.agg #[.int .i64 0, .int .i64 1], .bool true]) (by simp [results, Try.results84, go_sem, k0, k1]) rfl ⟨by rw [HRN.out.1, HRN.out.2.1, HRN.out.2.2, rn, rd, rb]; rfl, ?_⟩
                exact (kb.setCell (by simp; omega) _).setCell (by simp; omega) _
              · rw [if_neg hz] at rd
                rw [if_pos rfl] at rn
                go_wp2_with fail
                refine bodyPost_ret (v := .tuple #[.agg #[.int .i64 (-V1), .int .i64 V2], .bool true]) (by simp [results, Try.results84, go_sem, k0, k1]) rfl ⟨by rw [HRN.out.1, HRN.out.2.1, HRN.out.2.2, rn, rd, rb], ?_⟩
                exact (kb.setCell (by simp; omega) _).setCell (by simp; omega) _
        · by_cases hl : (X : Int) < (Y : Int)
          · have hE : (Y : Int) - (X : Int) = (TN : Int) := by obtain ⟨hT, hX, hY, hp1, hp2, hq1, hq2⟩ := HPQ.out; have := HTN.out; have := hp1 hs; have := hq2 hs2; omega
            have hm1 : Hid (0 ≤ T) := by obtain ⟨hT, hX, hY, hp1, hp2, hq1, hq2⟩ := HPQ.out; have := hp1 hs; have := hq2 hs2; show 0 ≤ T; omega
            have HP := Lib.hid (HM1.out hE)
            have HL := Lib.hid HLS.out
            rw [decide_eq_true hl] at HL
            clear hE hl
            go_wp2_with fail
            refine (HL.out _).mono ?_; rintro e w4 ⟨rfl, hb4⟩
            have n4 := n3.keep hb4
            clear hb4 n3 m0 m1 m2 m3 x0 x1 x2 x3 u0 u1 u2 u3 v0 v1 v2 v3
            obtain ⟨m0, m1, m2, m3⟩ := n4.all
            obtain ⟨u0, u1, u2, u3⟩ := n4.at b1 (.int .u64 Hx) (.int .u64 Lx) (by simp)
            obtain ⟨v0, v1, v2, v3⟩ := n4.at b2 (.int .u64 Hy) (.int .u64 Ly) (by simp)
            obtain ⟨x0, x1, x2, x3⟩ := n4.at wc.heap.size (.int .u64 0) (.int .u64 0) (by simp)
            go_wp2_with fail
            refine (HP.out _).mono ?_; rintro e w5 ⟨rfl, hb5⟩
            have t5a := n4.keep hb5
            obtain ⟨s0, s1, s2, s3⟩ := t5a.at wc.heap.size (.int .u64 0) (.int .u64 0) (by simp)
            have t5 := t5a.set hne3.out (.int .u64 Ht) (.int .u64 Lt)
            clear hb5 m0 m1 m2 m3 x0 x1 x2 x3 u0 u1 u2 u3 v0 v1 v2 v3
            obtain ⟨y0, y1, y2, y3⟩ := t5.all
            obtain ⟨x0, x1, -, -⟩ := t5.at wc.heap.size (.int .u64 Ht) (.int .u64 Lt) (by simp)
            go_wp2_with fail
            refine (HSp1.out _).mono ?_; rintro e w6 ⟨rfl, hb6⟩
            have t6 := (t5.keep hb6).new (.int .u64 Hu) (.int .u64 Lu) 134
            clear hb6 y0 y1 y2 y3 x0 x1
            obtain ⟨y0, y1, y2, y3⟩ := t6.all
            obtain ⟨x0, x1, -, -⟩ := t6.at wc.heap.size (.int .u64 Ht) (.int .u64 Lt) (by simp)
            go_wp2_with fail
            refine (HG2.out _).mono ?_; rintro e w' ⟨rfl, rfl⟩
            go_wp2_with fail
            refine (HSp2.out _).mono ?_; rintro e w7 ⟨rfl, hb7⟩
            have t7 := (t6.keep hb7).new (.int .u64 Hq) (.int .u64 Lq) 134
            clear hb7 y0 y1 y2 y3 x0 x1
            obtain ⟨y0, y1, y2, y3⟩ := t7.all
            go_wp2_with fail
            refine (HSm1.out _).mono ?_; rintro e w8 ⟨rfl, hb8⟩
            have t8 := t7.keep hb8
            clear hb8 y0 y1 y2 y3
            obtain ⟨y0, y1, y2, y3⟩ := t8.all
            go_wp2_with fail
            go_region_held3 (fun w' => w'.cell? ⟨w.heap.size, 1, none⟩ = some (.int .i64 FD) ∧ w'.cell? ⟨w.heap.size + 1, 1, none⟩ = some (.int .i64 GD)) (simp [*])
              (first
                | (go_at_call 102; refine (HT3.out _).mono ?_; rintro e w9 ⟨rfl, hb9⟩; have t9 := (t8.drew).keep hb9; obtain ⟨o0, o1, o2, o3⟩ := t9.all)
                | (go_at_call 107; refine (HSm2.out _).mono ?_; rintro e wA ⟨rfl, hbA⟩; have tA := t9.keep hbA; obtain ⟨p0, p1, p2, p3⟩ := tA.all))
            have tZ := Lib.hid tA
            clear t5 t6 t7 t8 t9 hb9 hbA o0 o1 o2 o3 y0 y1 y2 y3
            obtain ⟨⟨-, -, ⟨⟨k0, k1, -⟩, k2, k3⟩, kb⟩, -⟩ := tZ.out
            obtain ⟨ans1, ans2, ans3⟩ := HANS.out false (fun h => absurd h (by decide)) (fun _ => hm1.out)
            cases B1
            · obtain ⟨rn, rd⟩ := ans2 rfl
              have rb : RB = false := ans3.trans rfl
              clear ans1 ans2 ans3
              go_wp2_with fail
              refine bodyPost_ret (v := .tuple #[.agg #[.int .i64 0, .int .i64 0], .bool false]) (by simp [results, Try.results84, go_sem, k0, k1]) rfl ⟨by rw [HRN.out.1, HRN.out.2.1, HRN.out.2.2, rn, rd, rb], ?_⟩
              exact (kb.setCell (by simp; omega) _).setCell (by simp; omega) _
            · cases B2
              · obtain ⟨rn, rd⟩ := ans2 rfl
                have rb : RB = false := ans3.trans rfl
                clear ans1 ans2 ans3
                go_wp2_with fail
                refine bodyPost_ret (v := .tuple #[.agg #[.int .i64 0, .int .i64 0], .bool false]) (by simp [results, Try.results84, go_sem, k0, k1]) rfl ⟨by rw [HRN.out.1, HRN.out.2.1, HRN.out.2.2, rn, rd, rb], ?_⟩
                exact (kb.setCell (by simp; omega) _).setCell (by simp; omega) _
              · obtain ⟨rn, rd, rv1, rv2, nz0, nz1⟩ := ans1 rfl
                have rb : RB = true := ans3.trans rfl
                have nz : IntKind.i64.wrap (-qi) = -qi := IntWalk.i64_in _ (by omega)
                subst rv1 rv2
                clear ans1 ans2 ans3
                by_cases hz : V1 = 0
                · rw [if_pos hz] at rd
                  rw [if_neg (by simp)] at rn
                  subst hz
                  go_wp2_with fail
                  refine bodyPost_ret (v := .tuple #[.agg #[.int .i64 0, .int .i64 1], .bool true]) (by simp [results, Try.results84, go_sem, k0, k1]) rfl ⟨by rw [HRN.out.1, HRN.out.2.1, HRN.out.2.2, rn, rd, rb], ?_⟩
                  exact (kb.setCell (by simp; omega) _).setCell (by simp; omega) _
                · rw [if_neg hz] at rd
                  rw [if_neg (by simp)] at rn
                  go_wp2_with fail
                  refine bodyPost_ret (v := .tuple #[.agg #[.int .i64 (V1), .int .i64 V2], .bool true]) (by simp [results, Try.results84, go_sem, k0, k1]) rfl ⟨by rw [HRN.out.1, HRN.out.2.1, HRN.out.2.2, rn, rd, rb], ?_⟩
                  exact (kb.setCell (by simp; omega) _).setCell (by simp; omega) _
          · have hE : (X : Int) - (Y : Int) = (TN : Int) := by obtain ⟨hT, hX, hY, hp1, hp2, hq1, hq2⟩ := HPQ.out; have := HTN.out; have := hp1 hs; have := hq2 hs2; omega
            have hm1 : Hid (T ≤ 0) := by obtain ⟨hT, hX, hY, hp1, hp2, hq1, hq2⟩ := HPQ.out; have := hp1 hs; have := hq2 hs2; show T ≤ 0; omega
            have HP := Lib.hid (HM2.out hE)
            have HL := Lib.hid HLS.out
            rw [decide_eq_false hl] at HL
            clear hE hl
            go_wp2_with fail
            refine (HL.out _).mono ?_; rintro e w4 ⟨rfl, hb4⟩
            have n4 := n3.keep hb4
            clear hb4 n3 m0 m1 m2 m3 x0 x1 x2 x3 u0 u1 u2 u3 v0 v1 v2 v3
            obtain ⟨m0, m1, m2, m3⟩ := n4.all
            obtain ⟨u0, u1, u2, u3⟩ := n4.at b1 (.int .u64 Hx) (.int .u64 Lx) (by simp)
            obtain ⟨v0, v1, v2, v3⟩ := n4.at b2 (.int .u64 Hy) (.int .u64 Ly) (by simp)
            obtain ⟨x0, x1, x2, x3⟩ := n4.at wc.heap.size (.int .u64 0) (.int .u64 0) (by simp)
            go_wp2_with fail
            refine (HP.out _).mono ?_; rintro e w5 ⟨rfl, hb5⟩
            have t5a := n4.keep hb5
            obtain ⟨s0, s1, s2, s3⟩ := t5a.at wc.heap.size (.int .u64 0) (.int .u64 0) (by simp)
            have t5 := t5a.set hne3.out (.int .u64 Ht) (.int .u64 Lt)
            clear hb5 m0 m1 m2 m3 x0 x1 x2 x3 u0 u1 u2 u3 v0 v1 v2 v3
            obtain ⟨y0, y1, y2, y3⟩ := t5.all
            obtain ⟨x0, x1, -, -⟩ := t5.at wc.heap.size (.int .u64 Ht) (.int .u64 Lt) (by simp)
            go_wp2_with fail
            refine (HSp1.out _).mono ?_; rintro e w6 ⟨rfl, hb6⟩
            have t6 := (t5.keep hb6).new (.int .u64 Hu) (.int .u64 Lu) 134
            clear hb6 y0 y1 y2 y3 x0 x1
            obtain ⟨y0, y1, y2, y3⟩ := t6.all
            obtain ⟨x0, x1, -, -⟩ := t6.at wc.heap.size (.int .u64 Ht) (.int .u64 Lt) (by simp)
            go_wp2_with fail
            refine (HG2.out _).mono ?_; rintro e w' ⟨rfl, rfl⟩
            go_wp2_with fail
            refine (HSp2.out _).mono ?_; rintro e w7 ⟨rfl, hb7⟩
            have t7 := (t6.keep hb7).new (.int .u64 Hq) (.int .u64 Lq) 134
            clear hb7 y0 y1 y2 y3 x0 x1
            obtain ⟨y0, y1, y2, y3⟩ := t7.all
            go_wp2_with fail
            refine (HSm1.out _).mono ?_; rintro e w8 ⟨rfl, hb8⟩
            have t8 := t7.keep hb8
            clear hb8 y0 y1 y2 y3
            obtain ⟨y0, y1, y2, y3⟩ := t8.all
            go_wp2_with fail
            go_region_held3 (fun w' => w'.cell? ⟨w.heap.size, 1, none⟩ = some (.int .i64 FD) ∧ w'.cell? ⟨w.heap.size + 1, 1, none⟩ = some (.int .i64 GD)) (simp [*])
              (first
                | (go_at_call 102; refine (HT3.out _).mono ?_; rintro e w9 ⟨rfl, hb9⟩; have t9 := (t8.drew).keep hb9; obtain ⟨o0, o1, o2, o3⟩ := t9.all)
                | (go_at_call 107; refine (HSm2.out _).mono ?_; rintro e wA ⟨rfl, hbA⟩; have tA := t9.keep hbA; obtain ⟨p0, p1, p2, p3⟩ := tA.all))
            have tZ := Lib.hid tA
            clear t5 t6 t7 t8 t9 hb9 hbA o0 o1 o2 o3 y0 y1 y2 y3
            obtain ⟨⟨-, -, ⟨⟨k0, k1, -⟩, k2, k3⟩, kb⟩, -⟩ := tZ.out
            obtain ⟨ans1, ans2, ans3⟩ := HANS.out true (fun _ => hm1.out) (fun h => absurd h (by decide))
            cases B1
            · obtain ⟨rn, rd⟩ := ans2 rfl
              have rb : RB = false := ans3.trans rfl
              clear ans1 ans2 ans3
              go_wp2_with fail
              refine bodyPost_ret (v := .tuple #[.agg #[.int .i64 0, .int .i64 0], .bool false]) (by simp [results, Try.results84, go_sem, k0, k1]) rfl ⟨by rw [HRN.out.1, HRN.out.2.1, HRN.out.2.2, rn, rd, rb], ?_⟩
              exact (kb.setCell (by simp; omega) _).setCell (by simp; omega) _
            · cases B2
              · obtain ⟨rn, rd⟩ := ans2 rfl
                have rb : RB = false := ans3.trans rfl
                clear ans1 ans2 ans3
                go_wp2_with fail
                refine bodyPost_ret (v := .tuple #[.agg #[.int .i64 0, .int .i64 0], .bool false]) (by simp [results, Try.results84, go_sem, k0, k1]) rfl ⟨by rw [HRN.out.1, HRN.out.2.1, HRN.out.2.2, rn, rd, rb], ?_⟩
                exact (kb.setCell (by simp; omega) _).setCell (by simp; omega) _
              · obtain ⟨rn, rd, rv1, rv2, nz0, nz1⟩ := ans1 rfl
                have rb : RB = true := ans3.trans rfl
                have nz : IntKind.i64.wrap (-qi) = -qi := IntWalk.i64_in _ (by omega)
                subst rv1 rv2
                clear ans1 ans2 ans3
                by_cases hz : V1 = 0
                · rw [if_pos hz] at rd
                  rw [if_pos rfl] at rn
                  subst hz
                  go_wp2_with fail
                  refine bodyPost_ret (v := .tuple #[.agg #[.int .i64 0, .int .i64 1], .bool true]) (by simp [results, Try.results84, go_sem, k0, k1]) rfl ⟨by rw [HRN.out.1, HRN.out.2.1, HRN.out.2.2, rn, rd, rb]; rfl, ?_⟩
                  exact (kb.setCell (by simp; omega) _).setCell (by simp; omega) _
                · rw [if_neg hz] at rd
                  rw [if_pos rfl] at rn
                  go_wp2_with fail
                  refine bodyPost_ret (v := .tuple #[.agg #[.int .i64 (-V1), .int .i64 V2], .bool true]) (by simp [results, Try.results84, go_sem, k0, k1]) rfl ⟨by rw [HRN.out.1, HRN.out.2.1, HRN.out.2.2, rn, rd, rb], ?_⟩
                  exact (kb.setCell (by simp; omega) _).setCell (by simp; omega) _
      · by_cases hs2 : gn < 0
        · by_cases hl : (X : Int) < (Y : Int)
          · have hE : (Y : Int) - (X : Int) = (TN : Int) := by obtain ⟨hT, hX, hY, hp1, hp2, hq1, hq2⟩ := HPQ.out; have := HTN.out; have := hp2 hs; have := hq1 hs2; omega
            have hm1 : Hid (T ≤ 0) := by obtain ⟨hT, hX, hY, hp1, hp2, hq1, hq2⟩ := HPQ.out; have := hp2 hs; have := hq1 hs2; show T ≤ 0; omega
            have HP := Lib.hid (HM1.out hE)
            have HL := Lib.hid HLS.out
            rw [decide_eq_true hl] at HL
            clear hE hl
            go_wp2_with fail
            refine (HL.out _).mono ?_; rintro e w4 ⟨rfl, hb4⟩
            have n4 := n3.keep hb4
            clear hb4 n3 m0 m1 m2 m3 x0 x1 x2 x3 u0 u1 u2 u3 v0 v1 v2 v3
            obtain ⟨m0, m1, m2, m3⟩ := n4.all
            obtain ⟨u0, u1, u2, u3⟩ := n4.at b1 (.int .u64 Hx) (.int .u64 Lx) (by simp)
            obtain ⟨v0, v1, v2, v3⟩ := n4.at b2 (.int .u64 Hy) (.int .u64 Ly) (by simp)
            obtain ⟨x0, x1, x2, x3⟩ := n4.at wc.heap.size (.int .u64 0) (.int .u64 0) (by simp)
            go_wp2_with fail
            refine (HP.out _).mono ?_; rintro e w5 ⟨rfl, hb5⟩
            have t5a := n4.keep hb5
            obtain ⟨s0, s1, s2, s3⟩ := t5a.at wc.heap.size (.int .u64 0) (.int .u64 0) (by simp)
            have t5 := t5a.set hne3.out (.int .u64 Ht) (.int .u64 Lt)
            clear hb5 m0 m1 m2 m3 x0 x1 x2 x3 u0 u1 u2 u3 v0 v1 v2 v3
            obtain ⟨y0, y1, y2, y3⟩ := t5.all
            obtain ⟨x0, x1, -, -⟩ := t5.at wc.heap.size (.int .u64 Ht) (.int .u64 Lt) (by simp)
            go_wp2_with fail
            refine (HSp1.out _).mono ?_; rintro e w6 ⟨rfl, hb6⟩
            have t6 := (t5.keep hb6).new (.int .u64 Hu) (.int .u64 Lu) 134
            clear hb6 y0 y1 y2 y3 x0 x1
            obtain ⟨y0, y1, y2, y3⟩ := t6.all
            obtain ⟨x0, x1, -, -⟩ := t6.at wc.heap.size (.int .u64 Ht) (.int .u64 Lt) (by simp)
            go_wp2_with fail
            refine (HG2.out _).mono ?_; rintro e w' ⟨rfl, rfl⟩
            go_wp2_with fail
            refine (HSp2.out _).mono ?_; rintro e w7 ⟨rfl, hb7⟩
            have t7 := (t6.keep hb7).new (.int .u64 Hq) (.int .u64 Lq) 134
            clear hb7 y0 y1 y2 y3 x0 x1
            obtain ⟨y0, y1, y2, y3⟩ := t7.all
            go_wp2_with fail
            refine (HSm1.out _).mono ?_; rintro e w8 ⟨rfl, hb8⟩
            have t8 := t7.keep hb8
            clear hb8 y0 y1 y2 y3
            obtain ⟨y0, y1, y2, y3⟩ := t8.all
            go_wp2_with fail
            go_region_held3 (fun w' => w'.cell? ⟨w.heap.size, 1, none⟩ = some (.int .i64 FD) ∧ w'.cell? ⟨w.heap.size + 1, 1, none⟩ = some (.int .i64 GD)) (simp [*])
              (first
                | (go_at_call 102; refine (HT3.out _).mono ?_; rintro e w9 ⟨rfl, hb9⟩; have t9 := (t8.drew).keep hb9; obtain ⟨o0, o1, o2, o3⟩ := t9.all)
                | (go_at_call 107; refine (HSm2.out _).mono ?_; rintro e wA ⟨rfl, hbA⟩; have tA := t9.keep hbA; obtain ⟨p0, p1, p2, p3⟩ := tA.all))
            have tZ := Lib.hid tA
            clear t5 t6 t7 t8 t9 hb9 hbA o0 o1 o2 o3 y0 y1 y2 y3
            obtain ⟨⟨-, -, ⟨⟨k0, k1, -⟩, k2, k3⟩, kb⟩, -⟩ := tZ.out
            obtain ⟨ans1, ans2, ans3⟩ := HANS.out true (fun _ => hm1.out) (fun h => absurd h (by decide))
            cases B1
            · obtain ⟨rn, rd⟩ := ans2 rfl
              have rb : RB = false := ans3.trans rfl
              clear ans1 ans2 ans3
              go_wp2_with fail
              refine bodyPost_ret (v := .tuple #[.agg #[.int .i64 0, .int .i64 0], .bool false]) (by simp [results, Try.results84, go_sem, k0, k1]) rfl ⟨by rw [HRN.out.1, HRN.out.2.1, HRN.out.2.2, rn, rd, rb], ?_⟩
              exact (kb.setCell (by simp; omega) _).setCell (by simp; omega) _
            · cases B2
              · obtain ⟨rn, rd⟩ := ans2 rfl
                have rb : RB = false := ans3.trans rfl
                clear ans1 ans2 ans3
                go_wp2_with fail
                refine bodyPost_ret (v := .tuple #[.agg #[.int .i64 0, .int .i64 0], .bool false]) (by simp [results, Try.results84, go_sem, k0, k1]) rfl ⟨by rw [HRN.out.1, HRN.out.2.1, HRN.out.2.2, rn, rd, rb], ?_⟩
                exact (kb.setCell (by simp; omega) _).setCell (by simp; omega) _
              · obtain ⟨rn, rd, rv1, rv2, nz0, nz1⟩ := ans1 rfl
                have rb : RB = true := ans3.trans rfl
                have nz : IntKind.i64.wrap (-qi) = -qi := IntWalk.i64_in _ (by omega)
                subst rv1 rv2
                clear ans1 ans2 ans3
                by_cases hz : V1 = 0
                · rw [if_pos hz] at rd
                  rw [if_pos rfl] at rn
                  subst hz
                  go_wp2_with fail
                  refine bodyPost_ret (v := .tuple #[.agg #[.int .i64 0, .int .i64 1], .bool true]) (by simp [results, Try.results84, go_sem, k0, k1]) rfl ⟨by rw [HRN.out.1, HRN.out.2.1, HRN.out.2.2, rn, rd, rb]; rfl, ?_⟩
                  exact (kb.setCell (by simp; omega) _).setCell (by simp; omega) _
                · rw [if_neg hz] at rd
                  rw [if_pos rfl] at rn
                  go_wp2_with fail
                  refine bodyPost_ret (v := .tuple #[.agg #[.int .i64 (-V1), .int .i64 V2], .bool true]) (by simp [results, Try.results84, go_sem, k0, k1]) rfl ⟨by rw [HRN.out.1, HRN.out.2.1, HRN.out.2.2, rn, rd, rb], ?_⟩
                  exact (kb.setCell (by simp; omega) _).setCell (by simp; omega) _
          · have hE : (X : Int) - (Y : Int) = (TN : Int) := by obtain ⟨hT, hX, hY, hp1, hp2, hq1, hq2⟩ := HPQ.out; have := HTN.out; have := hp2 hs; have := hq1 hs2; omega
            have hm1 : Hid (0 ≤ T) := by obtain ⟨hT, hX, hY, hp1, hp2, hq1, hq2⟩ := HPQ.out; have := hp2 hs; have := hq1 hs2; show 0 ≤ T; omega
            have HP := Lib.hid (HM2.out hE)
            have HL := Lib.hid HLS.out
            rw [decide_eq_false hl] at HL
            clear hE hl
            go_wp2_with fail
            refine (HL.out _).mono ?_; rintro e w4 ⟨rfl, hb4⟩
            have n4 := n3.keep hb4
            clear hb4 n3 m0 m1 m2 m3 x0 x1 x2 x3 u0 u1 u2 u3 v0 v1 v2 v3
            obtain ⟨m0, m1, m2, m3⟩ := n4.all
            obtain ⟨u0, u1, u2, u3⟩ := n4.at b1 (.int .u64 Hx) (.int .u64 Lx) (by simp)
            obtain ⟨v0, v1, v2, v3⟩ := n4.at b2 (.int .u64 Hy) (.int .u64 Ly) (by simp)
            obtain ⟨x0, x1, x2, x3⟩ := n4.at wc.heap.size (.int .u64 0) (.int .u64 0) (by simp)
            go_wp2_with fail
            refine (HP.out _).mono ?_; rintro e w5 ⟨rfl, hb5⟩
            have t5a := n4.keep hb5
            obtain ⟨s0, s1, s2, s3⟩ := t5a.at wc.heap.size (.int .u64 0) (.int .u64 0) (by simp)
            have t5 := t5a.set hne3.out (.int .u64 Ht) (.int .u64 Lt)
            clear hb5 m0 m1 m2 m3 x0 x1 x2 x3 u0 u1 u2 u3 v0 v1 v2 v3
            obtain ⟨y0, y1, y2, y3⟩ := t5.all
            obtain ⟨x0, x1, -, -⟩ := t5.at wc.heap.size (.int .u64 Ht) (.int .u64 Lt) (by simp)
            go_wp2_with fail
            refine (HSp1.out _).mono ?_; rintro e w6 ⟨rfl, hb6⟩
            have t6 := (t5.keep hb6).new (.int .u64 Hu) (.int .u64 Lu) 134
            clear hb6 y0 y1 y2 y3 x0 x1
            obtain ⟨y0, y1, y2, y3⟩ := t6.all
            obtain ⟨x0, x1, -, -⟩ := t6.at wc.heap.size (.int .u64 Ht) (.int .u64 Lt) (by simp)
            go_wp2_with fail
            refine (HG2.out _).mono ?_; rintro e w' ⟨rfl, rfl⟩
            go_wp2_with fail
            refine (HSp2.out _).mono ?_; rintro e w7 ⟨rfl, hb7⟩
            have t7 := (t6.keep hb7).new (.int .u64 Hq) (.int .u64 Lq) 134
            clear hb7 y0 y1 y2 y3 x0 x1
            obtain ⟨y0, y1, y2, y3⟩ := t7.all
            go_wp2_with fail
            refine (HSm1.out _).mono ?_; rintro e w8 ⟨rfl, hb8⟩
            have t8 := t7.keep hb8
            clear hb8 y0 y1 y2 y3
            obtain ⟨y0, y1, y2, y3⟩ := t8.all
            go_wp2_with fail
            go_region_held3 (fun w' => w'.cell? ⟨w.heap.size, 1, none⟩ = some (.int .i64 FD) ∧ w'.cell? ⟨w.heap.size + 1, 1, none⟩ = some (.int .i64 GD)) (simp [*])
              (first
                | (go_at_call 102; refine (HT3.out _).mono ?_; rintro e w9 ⟨rfl, hb9⟩; have t9 := (t8.drew).keep hb9; obtain ⟨o0, o1, o2, o3⟩ := t9.all)
                | (go_at_call 107; refine (HSm2.out _).mono ?_; rintro e wA ⟨rfl, hbA⟩; have tA := t9.keep hbA; obtain ⟨p0, p1, p2, p3⟩ := tA.all))
            have tZ := Lib.hid tA
            clear t5 t6 t7 t8 t9 hb9 hbA o0 o1 o2 o3 y0 y1 y2 y3
            obtain ⟨⟨-, -, ⟨⟨k0, k1, -⟩, k2, k3⟩, kb⟩, -⟩ := tZ.out
            obtain ⟨ans1, ans2, ans3⟩ := HANS.out false (fun h => absurd h (by decide)) (fun _ => hm1.out)
            cases B1
            · obtain ⟨rn, rd⟩ := ans2 rfl
              have rb : RB = false := ans3.trans rfl
              clear ans1 ans2 ans3
              go_wp2_with fail
              refine bodyPost_ret (v := .tuple #[.agg #[.int .i64 0, .int .i64 0], .bool false]) (by simp [results, Try.results84, go_sem, k0, k1]) rfl ⟨by rw [HRN.out.1, HRN.out.2.1, HRN.out.2.2, rn, rd, rb], ?_⟩
              exact (kb.setCell (by simp; omega) _).setCell (by simp; omega) _
            · cases B2
              · obtain ⟨rn, rd⟩ := ans2 rfl
                have rb : RB = false := ans3.trans rfl
                clear ans1 ans2 ans3
                go_wp2_with fail
                refine bodyPost_ret (v := .tuple #[.agg #[.int .i64 0, .int .i64 0], .bool false]) (by simp [results, Try.results84, go_sem, k0, k1]) rfl ⟨by rw [HRN.out.1, HRN.out.2.1, HRN.out.2.2, rn, rd, rb], ?_⟩
                exact (kb.setCell (by simp; omega) _).setCell (by simp; omega) _
              · obtain ⟨rn, rd, rv1, rv2, nz0, nz1⟩ := ans1 rfl
                have rb : RB = true := ans3.trans rfl
                have nz : IntKind.i64.wrap (-qi) = -qi := IntWalk.i64_in _ (by omega)
                subst rv1 rv2
                clear ans1 ans2 ans3
                by_cases hz : V1 = 0
                · rw [if_pos hz] at rd
                  rw [if_neg (by simp)] at rn
                  subst hz
                  go_wp2_with fail
                  refine bodyPost_ret (v := .tuple #[.agg #[.int .i64 0, .int .i64 1], .bool true]) (by simp [results, Try.results84, go_sem, k0, k1]) rfl ⟨by rw [HRN.out.1, HRN.out.2.1, HRN.out.2.2, rn, rd, rb], ?_⟩
                  exact (kb.setCell (by simp; omega) _).setCell (by simp; omega) _
                · rw [if_neg hz] at rd
                  rw [if_neg (by simp)] at rn
                  go_wp2_with fail
                  refine bodyPost_ret (v := .tuple #[.agg #[.int .i64 (V1), .int .i64 V2], .bool true]) (by simp [results, Try.results84, go_sem, k0, k1]) rfl ⟨by rw [HRN.out.1, HRN.out.2.1, HRN.out.2.2, rn, rd, rb], ?_⟩
                  exact (kb.setCell (by simp; omega) _).setCell (by simp; omega) _
        · have hE : (X : Int) + (Y : Int) = (TN : Int) := by obtain ⟨hT, hX, hY, hp1, hp2, hq1, hq2⟩ := HPQ.out; have := HTN.out; have := hp2 hs; have := hq2 hs2; omega
          have hm1 : Hid (0 ≤ T) := by obtain ⟨hT, hX, hY, hp1, hp2, hq1, hq2⟩ := HPQ.out; have := hp2 hs; have := hq2 hs2; show 0 ≤ T; omega
          have HP := Lib.hid (HPL.out hE)
          clear hE
          go_wp2_with fail
          refine (HP.out _).mono ?_; rintro e w5 ⟨rfl, hb5⟩
          have t5a := n3.keep hb5
          obtain ⟨s0, s1, s2, s3⟩ := t5a.at wc.heap.size (.int .u64 0) (.int .u64 0) (by simp)
          have t5 := t5a.set hne3.out (.int .u64 Ht) (.int .u64 Lt)
          clear hb5 m0 m1 m2 m3 x0 x1 x2 x3 u0 u1 u2 u3 v0 v1 v2 v3
          obtain ⟨y0, y1, y2, y3⟩ := t5.all
          obtain ⟨x0, x1, -, -⟩ := t5.at wc.heap.size (.int .u64 Ht) (.int .u64 Lt) (by simp)
          go_wp2_with fail
          refine (HSp1.out _).mono ?_; rintro e w6 ⟨rfl, hb6⟩
          have t6 := (t5.keep hb6).new (.int .u64 Hu) (.int .u64 Lu) 134
          clear hb6 y0 y1 y2 y3 x0 x1
          obtain ⟨y0, y1, y2, y3⟩ := t6.all
          obtain ⟨x0, x1, -, -⟩ := t6.at wc.heap.size (.int .u64 Ht) (.int .u64 Lt) (by simp)
          go_wp2_with fail
          refine (HG2.out _).mono ?_; rintro e w' ⟨rfl, rfl⟩
          go_wp2_with fail
          refine (HSp2.out _).mono ?_; rintro e w7 ⟨rfl, hb7⟩
          have t7 := (t6.keep hb7).new (.int .u64 Hq) (.int .u64 Lq) 134
          clear hb7 y0 y1 y2 y3 x0 x1
          obtain ⟨y0, y1, y2, y3⟩ := t7.all
          go_wp2_with fail
          refine (HSm1.out _).mono ?_; rintro e w8 ⟨rfl, hb8⟩
          have t8 := t7.keep hb8
          clear hb8 y0 y1 y2 y3
          obtain ⟨y0, y1, y2, y3⟩ := t8.all
          go_wp2_with fail
          go_region_held3 (fun w' => w'.cell? ⟨w.heap.size, 1, none⟩ = some (.int .i64 FD) ∧ w'.cell? ⟨w.heap.size + 1, 1, none⟩ = some (.int .i64 GD)) (simp [*])
            (first
              | (go_at_call 102; refine (HT3.out _).mono ?_; rintro e w9 ⟨rfl, hb9⟩; have t9 := (t8.drew).keep hb9; obtain ⟨o0, o1, o2, o3⟩ := t9.all)
              | (go_at_call 107; refine (HSm2.out _).mono ?_; rintro e wA ⟨rfl, hbA⟩; have tA := t9.keep hbA; obtain ⟨p0, p1, p2, p3⟩ := tA.all))
          have tZ := Lib.hid tA
          clear t5 t6 t7 t8 t9 hb9 hbA o0 o1 o2 o3 y0 y1 y2 y3
          obtain ⟨⟨-, -, ⟨⟨k0, k1, -⟩, k2, k3⟩, kb⟩, -⟩ := tZ.out
          obtain ⟨ans1, ans2, ans3⟩ := HANS.out false (fun h => absurd h (by decide)) (fun _ => hm1.out)
          cases B1
          · obtain ⟨rn, rd⟩ := ans2 rfl
            have rb : RB = false := ans3.trans rfl
            clear ans1 ans2 ans3
            go_wp2_with fail
            refine bodyPost_ret (v := .tuple #[.agg #[.int .i64 0, .int .i64 0], .bool false]) (by simp [results, Try.results84, go_sem, k0, k1]) rfl ⟨by rw [HRN.out.1, HRN.out.2.1, HRN.out.2.2, rn, rd, rb], ?_⟩
            exact (kb.setCell (by simp; omega) _).setCell (by simp; omega) _
          · cases B2
            · obtain ⟨rn, rd⟩ := ans2 rfl
              have rb : RB = false := ans3.trans rfl
              clear ans1 ans2 ans3
              go_wp2_with fail
              refine bodyPost_ret (v := .tuple #[.agg #[.int .i64 0, .int .i64 0], .bool false]) (by simp [results, Try.results84, go_sem, k0, k1]) rfl ⟨by rw [HRN.out.1, HRN.out.2.1, HRN.out.2.2, rn, rd, rb], ?_⟩
              exact (kb.setCell (by simp; omega) _).setCell (by simp; omega) _
            · obtain ⟨rn, rd, rv1, rv2, nz0, nz1⟩ := ans1 rfl
              have rb : RB = true := ans3.trans rfl
              have nz : IntKind.i64.wrap (-qi) = -qi := IntWalk.i64_in _ (by omega)
              subst rv1 rv2
              clear ans1 ans2 ans3
              by_cases hz : V1 = 0
              · rw [if_pos hz] at rd
                rw [if_neg (by simp)] at rn
                subst hz
                go_wp2_with fail
                refine bodyPost_ret (v := .tuple #[.agg #[.int .i64 0, .int .i64 1], .bool true]) (by simp [results, Try.results84, go_sem, k0, k1]) rfl ⟨by rw [HRN.out.1, HRN.out.2.1, HRN.out.2.2, rn, rd, rb], ?_⟩
                exact (kb.setCell (by simp; omega) _).setCell (by simp; omega) _
              · rw [if_neg hz] at rd
                rw [if_neg (by simp)] at rn
                go_wp2_with fail
                refine bodyPost_ret (v := .tuple #[.agg #[.int .i64 (V1), .int .i64 V2], .bool true]) (by simp [results, Try.results84, go_sem, k0, k1]) rfl ⟨by rw [HRN.out.1, HRN.out.2.1, HRN.out.2.2, rn, rd, rb], ?_⟩
                exact (kb.setCell (by simp; omega) _).setCell (by simp; omega) _
end Go.Proofs.Ytnpigefbdadjfaa
