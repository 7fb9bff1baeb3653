/- Contracts of the program's wide numbers: productOf, sign, size, part, fractionOf. -/
import Derived.Test.YtnpigefbdadjfaaDoorWide
namespace Go.Proofs.YtnpigefbdadjfaaDoor
open Go Go.RowKit
set_option linter.unusedVariables false

/-- A block of two cells that may be written. -/
def FBox (W : World) (b : Nat) (x y : Value) : Prop := Box W b x y ∧ W.frozen? ⟨b, 0, none⟩ = false ∧ W.frozen? ⟨b, 1, none⟩ = false
theorem fbox_new (w : World) (x y : Value) (t : TypeId) : FBox (w.alloc (.cells #[x, y] t)) w.heap.size x y :=
  ⟨box_new w x y t, World.frozen?_alloc_at _ _ _ _ rfl, World.frozen?_alloc_at _ _ _ _ rfl⟩
theorem fbox_keep {W W' : World} {b : Nat} {x y : Value} (h : FBox W b x y) (hb : Below W.heap.size W W') : FBox W' b x y :=
  ⟨box_keep h.1 hb, (hb.frozen (p := ⟨b, 0, none⟩) h.1.2.2).trans h.2.1, (hb.frozen (p := ⟨b, 1, none⟩) h.1.2.2).trans h.2.2⟩
theorem fbox_alloc {W : World} {b : Nat} {x y : Value} (h : FBox W b x y) (o : Obj) : FBox (W.alloc o) b x y := fbox_keep h ((Below.refl _ _).alloc (Nat.le_refl _) o)

set_option maxRecDepth 100000 in
theorem productOf_any (a b : Int) (w : World) (a1 : -1000000000000000000 ≤ a) (a2 : a ≤ 1000000000000000000) (b1 : -1000000000000000000 ≤ b) (b2 : b ≤ 1000000000000000000) :
    Calls Tryd.prog 73 #[.int .i64 a, .int .i64 b] w fun e w' => e = .returned (.agg #[.int .u64 (hi64 (a * b)), .int .u64 (lo64 (a * b))]) ∧ Below w.heap.size w w' := by
  have hM : Hid (∀ W : World, Calls Tryd.prog 122 #[.int .u64 (a.natAbs : Int), .int .u64 (b.natAbs : Int)] W fun e w' => e = .returned (.tuple #[.int .u64 (hi64 ((a.natAbs : Int) * (b.natAbs : Int))), .int .u64 (lo64 ((a.natAbs : Int) * (b.natAbs : Int)))]) ∧ w' = W) := by
    show ∀ W : World, _
    intro W
    have h := Tryd.bits_Mul64 a.natAbs b.natAbs (by omega) (by omega) W
    have hlt : a.natAbs * b.natAbs ≤ 1000000000000000000 * 1000000000000000000 := Nat.mul_le_mul (by omega) (by omega)
    have e1 : ((a.natAbs * b.natAbs / 18446744073709551616 : Nat) : Int) = hi64 ((a.natAbs : Int) * (b.natAbs : Int)) := by
      unfold hi64; rw [← Int.natCast_mul]; omega
    have e2 : ((a.natAbs * b.natAbs % 18446744073709551616 : Nat) : Int) = lo64 ((a.natAbs : Int) * (b.natAbs : Int)) := by
      unfold lo64; rw [← Int.natCast_mul]; omega
    rw [e1, e2] at h
    exact h
  by_cases ha : a < 0
  · by_cases hb : b < 0
    · have hpos : (a.natAbs : Int) * (b.natAbs : Int) = a * b := by rw [show (a.natAbs : Int) = -a from by omega, show (b.natAbs : Int) = -b from by omega, Int.neg_mul_neg]
      rw [hpos] at hM
      clear hpos
      have da : decide (a < 0) = true := decide_eq_true ha
      have db : decide (b < 0) = true := decide_eq_true hb
      generalize a * b = Z at hM ⊢
      go_enter Tryd.func73, Tryd.ntmps73
      go_wp2_with fail
      refine (magnitude_any _ _ (by omega) (by omega)).mono ?_; rintro e w' ⟨rfl, rfl⟩
      go_wp2_with fail
      refine (magnitude_any _ _ (by omega) (by omega)).mono ?_; rintro e w' ⟨rfl, rfl⟩
      go_wp2_with fail
      refine (hM.out _).mono ?_; rintro e w' ⟨rfl, rfl⟩
      go_wp2_with fail
      simp [bodyPost, results, Tryd.results73, go_sem]
      exact ((Below.refl _ _).alloc (Nat.le_refl _) _).alloc (by simp) _
    · have hneg : a * b = -((a.natAbs : Int) * (b.natAbs : Int)) := by rw [show (a.natAbs : Int) = -a from by omega, show (b.natAbs : Int) = b from by omega, Int.neg_mul, Int.neg_neg]
      rw [hneg]
      clear hneg
      have da : decide (a < 0) = true := decide_eq_true ha
      have db : decide (b < 0) = false := decide_eq_false hb
      generalize (a.natAbs : Int) * (b.natAbs : Int) = Z at hM ⊢
      have X0 := Lib.hid (fbox_alloc (fbox_new w (.int .u64 0) (.int .u64 0) 101) (.cells #[.int .u64 (hi64 Z), .int .u64 (lo64 Z)] 101))
      have B0 := Lib.hid (balloc (balloc (Below.refl w.heap.size w) (.cells #[.int .u64 0, .int .u64 0] 101)) (.cells #[.int .u64 (hi64 Z), .int .u64 (lo64 Z)] 101))
      go_enter Tryd.func73, Tryd.ntmps73
      go_wp2_with fail
      refine (magnitude_any _ _ (by omega) (by omega)).mono ?_; rintro e w' ⟨rfl, rfl⟩
      go_wp2_with fail
      refine (magnitude_any _ _ (by omega) (by omega)).mono ?_; rintro e w' ⟨rfl, rfl⟩
      go_wp2_with fail
      refine (hM.out _).mono ?_; rintro e w' ⟨rfl, rfl⟩
      go_wp2_with fail
      refine (opposite_any _ _).mono ?_; rintro e w1 ⟨rfl, hb1⟩
      obtain ⟨⟨q0, q1, -⟩, q2, q3⟩ := fbox_keep X0.out hb1
      have B1 := Lib.hid (bnext B0.out hb1)
      clear hb1
      go_wp2_with fail
      refine bodyPost_ret (v := .agg #[.int .u64 (hi64 (-Z)), .int .u64 (lo64 (-Z))]) (by simp [results, Tryd.results73, go_sem, q0, q1]) rfl ⟨rfl, ?_⟩
      exact (B1.out.setCell (Nat.le_refl _) _).setCell (Nat.le_refl _) _
  · by_cases hb : b < 0
    · have hneg : a * b = -((a.natAbs : Int) * (b.natAbs : Int)) := by rw [show (a.natAbs : Int) = a from by omega, show (b.natAbs : Int) = -b from by omega, Int.mul_neg, Int.neg_neg]
      rw [hneg]
      clear hneg
      have da : decide (a < 0) = false := decide_eq_false ha
      have db : decide (b < 0) = true := decide_eq_true hb
      generalize (a.natAbs : Int) * (b.natAbs : Int) = Z at hM ⊢
      have X0 := Lib.hid (fbox_alloc (fbox_new w (.int .u64 0) (.int .u64 0) 101) (.cells #[.int .u64 (hi64 Z), .int .u64 (lo64 Z)] 101))
      have B0 := Lib.hid (balloc (balloc (Below.refl w.heap.size w) (.cells #[.int .u64 0, .int .u64 0] 101)) (.cells #[.int .u64 (hi64 Z), .int .u64 (lo64 Z)] 101))
      go_enter Tryd.func73, Tryd.ntmps73
      go_wp2_with fail
      refine (magnitude_any _ _ (by omega) (by omega)).mono ?_; rintro e w' ⟨rfl, rfl⟩
      go_wp2_with fail
      refine (magnitude_any _ _ (by omega) (by omega)).mono ?_; rintro e w' ⟨rfl, rfl⟩
      go_wp2_with fail
      refine (hM.out _).mono ?_; rintro e w' ⟨rfl, rfl⟩
      go_wp2_with fail
      refine (opposite_any _ _).mono ?_; rintro e w1 ⟨rfl, hb1⟩
      obtain ⟨⟨q0, q1, -⟩, q2, q3⟩ := fbox_keep X0.out hb1
      have B1 := Lib.hid (bnext B0.out hb1)
      clear hb1
      go_wp2_with fail
      refine bodyPost_ret (v := .agg #[.int .u64 (hi64 (-Z)), .int .u64 (lo64 (-Z))]) (by simp [results, Tryd.results73, go_sem, q0, q1]) rfl ⟨rfl, ?_⟩
      exact (B1.out.setCell (Nat.le_refl _) _).setCell (Nat.le_refl _) _
    · have hpos : (a.natAbs : Int) * (b.natAbs : Int) = a * b := by rw [show (a.natAbs : Int) = a from by omega, show (b.natAbs : Int) = b from by omega]
      rw [hpos] at hM
      clear hpos
      have da : decide (a < 0) = false := decide_eq_false ha
      have db : decide (b < 0) = false := decide_eq_false hb
      generalize a * b = Z at hM ⊢
      go_enter Tryd.func73, Tryd.ntmps73
      go_wp2_with fail
      refine (magnitude_any _ _ (by omega) (by omega)).mono ?_; rintro e w' ⟨rfl, rfl⟩
      go_wp2_with fail
      refine (magnitude_any _ _ (by omega) (by omega)).mono ?_; rintro e w' ⟨rfl, rfl⟩
      go_wp2_with fail
      refine (hM.out _).mono ?_; rintro e w' ⟨rfl, rfl⟩
      go_wp2_with fail
      simp [bodyPost, results, Tryd.results73, go_sem]
      exact ((Below.refl _ _).alloc (Nat.le_refl _) _).alloc (by simp) _

def sgn (Z : Int) : Int := if Z < 0 then -1 else if Z = 0 then 0 else 1
/-- A number that two words hold with room. -/
def Fits (Z : Int) : Prop := -100000000000000000000000000000000000000 ≤ Z ∧ Z ≤ 100000000000000000000000000000000000000

theorem sign_any (Z : Int) (w : World) (hZ : Fits Z) :
    Calls Tryd.prog 78 #[.agg #[.int .u64 (hi64 Z), .int .u64 (lo64 Z)]] w fun e w' => e = .returned (.int .i64 (sgn Z)) ∧ Below w.heap.size w w' := by
  obtain ⟨h1, h2⟩ := hZ
  have hs : wrap64 (hi64 Z) < 0 ↔ Z < 0 := by unfold wrap64 hi64; omega
  have hz : hi64 Z = 0 ∧ lo64 Z = 0 ↔ Z = 0 := by unfold hi64 lo64; omega
  obtain ⟨b1, b2⟩ := hi64_bd Z
  by_cases h0 : Z = 0
  · subst h0
    have e1 : hi64 0 = 0 := by decide
    have e2 : lo64 0 = 0 := by decide
    have e3 : sgn 0 = 0 := by decide
    rw [e1, e2, e3]
    clear hs hz b1 b2 e1 e2 e3
    go_enter Tryd.func78, Tryd.ntmps78
    go_wp2
    go_ret
    exact ⟨rfl, (Below.refl _ _).alloc (Nat.le_refl _) _⟩
  · have hne : ¬ (hi64 Z = 0 ∧ lo64 Z = 0) := fun e => h0 (hz.1 e)
    by_cases hn : Z < 0
    · have HR : Hid (sgn Z = -1) := if_pos hn
      have h3 : wrap64 (hi64 Z) < 0 := hs.2 hn
      have h6 : (hi64 Z == 0) = false := beq_f (fun e => by unfold wrap64 at h3; omega)
      have h7 : decide (wrap64 (hi64 Z) < 0) = true := decide_eq_true h3
      rw [HR.out]
      generalize hi64 Z = x at *
      generalize lo64 Z = y at *
      clear hs hz h1 h2 hne h0 hn h3
      go_enter Tryd.func78, Tryd.ntmps78
      go_wp2
      go_ret
      exact ⟨rfl, (Below.refl _ _).alloc (Nat.le_refl _) _⟩
    · have HR : Hid (sgn Z = 1) := by show _ = _; unfold sgn; rw [if_neg hn, if_neg h0]
      have h7 : decide (wrap64 (hi64 Z) < 0) = false := decide_eq_false (fun e => hn (hs.1 e))
      rw [HR.out]
      generalize hi64 Z = x at *
      generalize lo64 Z = y at *
      by_cases hx : x = 0
      · have h6 : (x == 0) = true := beq_t hx
        have h8 : (y == 0) = false := beq_f (fun e => hne ⟨hx, e⟩)
        subst hx
        clear hs hz h1 h2 hne h0 hn h6
        go_enter Tryd.func78, Tryd.ntmps78
        go_wp2
        go_ret
        exact ⟨rfl, (Below.refl _ _).alloc (Nat.le_refl _) _⟩
      · have h6 : (x == 0) = false := beq_f hx
        clear hs hz h1 h2 hne h0 hn hx
        go_enter Tryd.func78, Tryd.ntmps78
        go_wp2
        go_ret
        exact ⟨rfl, (Below.refl _ _).alloc (Nat.le_refl _) _⟩

theorem size_any (Z : Int) (w : World) (hZ : Fits Z) :
    Calls Tryd.prog 125 #[.agg #[.int .u64 (hi64 Z), .int .u64 (lo64 Z)]] w fun e w' => e = .returned (.agg #[.int .u64 (hi64 Z.natAbs), .int .u64 (lo64 Z.natAbs)]) ∧ Below w.heap.size w w' := by
  have HZ := Lib.hid hZ
  clear hZ
  have X0 := Lib.hid (fbox_alloc (fbox_new w (.int .u64 (hi64 Z)) (.int .u64 (lo64 Z)) 101) (.cells #[.int .u64 0, .int .u64 0] 101))
  have X1 := Lib.hid (fbox_new (w.alloc (.cells #[.int .u64 (hi64 Z), .int .u64 (lo64 Z)] 101)) (.int .u64 0) (.int .u64 0) 101)
  have B0 := Lib.hid (balloc (balloc (Below.refl w.heap.size w) (.cells #[.int .u64 (hi64 Z), .int .u64 (lo64 Z)] 101)) (.cells #[.int .u64 0, .int .u64 0] 101))
  by_cases hn : Z < 0
  · have HR : Hid ((Z.natAbs : Int) = -Z) := by show _ = _; omega
    have hs : sgn Z = -1 := if_pos hn
    rw [HR.out]
    have HS := Lib.hid hs
    clear hs hn
    go_enter Tryd.func125, Tryd.ntmps125
    go_wp2_with fail
    refine (sign_any _ _ HZ.out).mono ?_; rintro e w1 ⟨rfl, hb1⟩
    rw [HS.out]
    have XA := Lib.hid (fbox_keep X0.out hb1)
    have XB := Lib.hid (fbox_keep X1.out hb1)
    have B1 := Lib.hid (bnext B0.out hb1)
    clear hb1
    obtain ⟨⟨q0, q1, -⟩, -, -⟩ := XA.out
    go_wp2_with fail
    refine (opposite_any _ _).mono ?_; rintro e w2 ⟨rfl, hb2⟩
    have XC := Lib.hid (fbox_keep XB.out hb2)
    have B2 := Lib.hid (bnext B1.out hb2)
    clear hb2 q0 q1
    obtain ⟨⟨q0, q1, -⟩, q2, q3⟩ := XC.out
    simp at q0 q1 q2 q3
    go_wp2_with fail
    refine bodyPost_ret (v := .agg #[.int .u64 (hi64 (-Z)), .int .u64 (lo64 (-Z))]) (by simp [results, Tryd.results125, go_sem, q0, q1]) rfl ⟨rfl, ?_⟩
    exact (B2.out.setCell (by simp) _).setCell (by simp) _
  · have HR : Hid ((Z.natAbs : Int) = Z) := by show _ = _; omega
    have hs : ¬ sgn Z < 0 := by unfold sgn; rw [if_neg hn]; split <;> decide
    have hs2 : decide (sgn Z < 0) = false := decide_eq_false hs
    rw [HR.out]
    generalize hsz : sgn Z = sz at hs hs2
    have HSZ := Lib.hid hsz
    clear hsz hn hs
    go_enter Tryd.func125, Tryd.ntmps125
    go_wp2_with fail
    refine (sign_any _ _ HZ.out).mono ?_; rintro e w1 ⟨rfl, hb1⟩
    rw [HSZ.out]
    have XA := Lib.hid (fbox_keep X0.out hb1)
    have XB := Lib.hid (fbox_keep X1.out hb1)
    have B1 := Lib.hid (bnext B0.out hb1)
    clear hb1
    obtain ⟨⟨q0, q1, -⟩, -, -⟩ := XA.out
    obtain ⟨⟨q4, q5, -⟩, q2, q3⟩ := XB.out
    simp at q4 q5 q2 q3
    go_wp2_with fail
    refine bodyPost_ret (v := .agg #[.int .u64 (hi64 Z), .int .u64 (lo64 Z)]) (by simp [results, Tryd.results125, go_sem, q4, q5]) rfl ⟨rfl, ?_⟩
    exact (B1.out.setCell (by simp) _).setCell (by simp) _

theorem small_words (Z : Int) (h0 : 0 ≤ Z) (h : Z ≤ 1000000000000000000) : hi64 Z = 0 ∧ lo64 Z = Z := by unfold hi64 lo64; omega
theorem great_words (Z : Int) (h : 1000000000000000000 < Z) (h2 : Z ≤ 100000000000000000000000000000000000000) : hi64 Z = 0 → 1000000000000000000 < lo64 Z := by unfold hi64 lo64; omega
theorem fits_abs {Z : Int} (h : Fits Z) : Fits (Z.natAbs : Int) := by obtain ⟨h1, h2⟩ := h; exact ⟨by omega, by omega⟩

theorem part_yes (Z : Int) (w : World) (h1 : -1000000000000000000 ≤ Z) (h2 : Z ≤ 1000000000000000000) :
    Calls Tryd.prog 127 #[.agg #[.int .u64 (hi64 Z), .int .u64 (lo64 Z)]] w fun e w' => e = .returned (.tuple #[.int .i64 Z, .bool true]) ∧ Below w.heap.size w w' := by
  have HF : Hid (Fits Z) := by show Fits Z; exact ⟨by omega, by omega⟩
  obtain ⟨e1, e2⟩ := small_words (Z.natAbs : Int) (by omega) (by omega)
  have HE1 := Lib.hid e1
  have HE2 := Lib.hid e2
  have hw : wrap64 (lo64 Z) = Z := by unfold wrap64 lo64; omega
  have a1 : (0 : Int) ≤ (Z.natAbs : Int) := by omega
  have a2 : (Z.natAbs : Int) ≤ 1000000000000000000 := by omega
  have a3 : decide (1000000000000000000 < (Z.natAbs : Int)) = false := decide_eq_false (by omega)
  have X0 := Lib.hid (fbox_new w (.int .u64 (hi64 Z)) (.int .u64 (lo64 Z)) 101)
  have B0 := Lib.hid (balloc (Below.refl w.heap.size w) (.cells #[.int .u64 (hi64 Z), .int .u64 (lo64 Z)] 101))
  clear e1 e2
  go_enter Tryd.func127, Tryd.ntmps127
  go_wp2_with fail
  refine (size_any _ _ HF.out).mono ?_; rintro e w1 ⟨rfl, hb1⟩
  rw [HE1.out, HE2.out]
  obtain ⟨⟨q0, q1, qs⟩, -, -⟩ := fbox_keep X0.out hb1
  have B1 := Lib.hid (bnext B0.out hb1)
  clear hb1
  go_wp2_with fail
  go_ret2
  exact ⟨ret_ib hw rfl, balloc B1.out _⟩

theorem part_no (Z : Int) (w : World) (hZ : Fits Z) (h : ¬ (-1000000000000000000 ≤ Z ∧ Z ≤ 1000000000000000000)) :
    Calls Tryd.prog 127 #[.agg #[.int .u64 (hi64 Z), .int .u64 (lo64 Z)]] w fun e w' => e = .returned (.tuple #[.int .i64 0, .bool false]) ∧ Below w.heap.size w w' := by
  have HF := Lib.hid hZ
  have hg := great_words (Z.natAbs : Int) (by omega) (fits_abs hZ).2
  obtain ⟨b1, b2⟩ := hi64_bd (Z.natAbs : Int)
  obtain ⟨b3, b4⟩ := lo64_bd (Z.natAbs : Int)
  have B0 := Lib.hid (balloc (Below.refl w.heap.size w) (.cells #[.int .u64 (hi64 Z), .int .u64 (lo64 Z)] 101))
  have hsz := fun W => size_any Z W hZ
  clear h hZ
  generalize hx : hi64 (Z.natAbs : Int) = x at *
  generalize hy : lo64 (Z.natAbs : Int) = y at *
  have HSZ := Lib.hid hsz
  clear hsz hx hy
  by_cases hx0 : x = 0
  · have h1 : (x != 0) = false := bne_f hx0
    have h2 : decide (1000000000000000000 < y) = true := decide_eq_true (hg hx0)
    subst hx0
    clear hg h1
    go_enter Tryd.func127, Tryd.ntmps127
    go_wp2_with fail
    refine (HSZ.out _).mono ?_; rintro e w1 ⟨rfl, hb1⟩
    have B1 := Lib.hid (bnext B0.out hb1)
    clear hb1
    go_wp2_with fail
    go_ret2
    exact ⟨rfl, balloc B1.out _⟩
  · have h1 : (x != 0) = true := bne_t hx0
    clear hg hx0
    go_enter Tryd.func127, Tryd.ntmps127
    go_wp2_with fail
    refine (HSZ.out _).mono ?_; rintro e w1 ⟨rfl, hb1⟩
    have B1 := Lib.hid (bnext B0.out hb1)
    clear hb1
    go_wp2_with fail
    go_ret2
    exact ⟨rfl, balloc B1.out _⟩
end Go.Proofs.YtnpigefbdadjfaaDoor
