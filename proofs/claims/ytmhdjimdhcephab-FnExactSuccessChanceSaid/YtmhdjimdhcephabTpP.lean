/- The program's timesPower: a fraction times the power of another one, step by step. -/
import Derived.Test.YtmhdjimdhcephabAdK
namespace Go.Proofs.Ytmhdjimdhcephab
open Go Go.RowKit
set_option linter.unusedVariables false

theorem fbox_far {W : World} {a b : Nat} {x y : Value} (h : FBox W b x y) (hne : a ≠ b) (u v : Value) : FBox ((W.setCell ⟨a, 0, none⟩ u).setCell ⟨a, 1, none⟩ v) b x y := by
  have e : (W.setCell ⟨a, 0, none⟩ u).setCell ⟨a, 1, none⟩ v = W.setCells a 0 [u, v] := rfl
  have hsz : W.heap.size ≤ ((W.setCell ⟨a, 0, none⟩ u).setCell ⟨a, 1, none⟩ v).heap.size := (((Below.refl 0 W).setCell (p := ⟨a, 0, none⟩) (Nat.zero_le _) u).setCell (p := ⟨a, 1, none⟩) (Nat.zero_le _) v).size
  have hb := h.1.2.2
  refine ⟨⟨?_, ?_, by omega⟩, ?_, ?_⟩
  · rw [World.cell?_setCell_far _ _ _ _ (by simpa using hne), World.cell?_setCell_far _ _ _ _ (by simpa using hne)]; exact h.1.1
  · rw [World.cell?_setCell_far _ _ _ _ (by simpa using hne), World.cell?_setCell_far _ _ _ _ (by simpa using hne)]; exact h.1.2.1
  · rw [e, World.frozen?_setCells]; exact h.2.1
  · rw [e, World.frozen?_setCells]; exact h.2.2
theorem T3.set {w W : World} {a c r : Nat} {A B C D X Y : Value} (h : T3 w W a c r A B C D X Y) (h1 : a ≠ c) (h2 : a ≠ r) (h3 : w.heap.size ≤ a) (A' B' : Value) : T3 w ((W.setCell ⟨a, 0, none⟩ A').setCell ⟨a, 1, none⟩ B') a c r A' B' C D X Y :=
  ⟨fbox_set h.1 A' B', fbox_far h.2.1 h1 _ _, fbox_far h.2.2.1 h2 _ _, (h.2.2.2.setCell (p := ⟨a, 0, none⟩) h3 _).setCell (p := ⟨a, 1, none⟩) h3 _⟩
/-- The fraction behind k products, and whether it is valid. -/
def tpS (fn fd gn gd : Int) : Nat → Int × Int × Bool
  | 0 => (fn, fd, fIs fn fd)
  | k + 1 => (mlN (tpS fn fd gn gd k).1 (tpS fn fd gn gd k).2.1 gn gd, mlD (tpS fn fd gn gd k).1 (tpS fn fd gn gd k).2.1 gn gd, mlB (tpS fn fd gn gd k).1 (tpS fn fd gn gd k).2.1 gn gd)
theorem mlN_bd (fn fd gn gd : Int) : -1000000000000000000 ≤ mlN fn fd gn gd ∧ mlN fn fd gn gd ≤ 1000000000000000000 := by
  unfold mlN
  split
  · unfold foN
    split
    · rename_i h; exact of_decide_eq_true h.1
    · omega
  · omega
theorem tpS_bd {fn fd gn gd : Int} (h1 : -9223372036854775808 ≤ fn) (h2 : fn ≤ 9223372036854775807) : ∀ k, -9223372036854775808 ≤ (tpS fn fd gn gd k).1 ∧ (tpS fn fd gn gd k).1 ≤ 9223372036854775807
  | 0 => ⟨h1, h2⟩
  | k + 1 => by
    have := mlN_bd (tpS fn fd gn gd k).1 (tpS fn fd gn gd k).2.1 gn gd
    rw [tpS]
    omega
set_option maxRecDepth 100000 in
set_option maxHeartbeats 2000000 in
theorem timesPower_any (fn fd gn gd : Int) (n : Nat) (w : World) (hn : n ≤ 1000) (wf1 : -9223372036854775808 ≤ fn) (wf2 : fn ≤ 9223372036854775807) (wg1 : -9223372036854775808 ≤ gn) (wg2 : gn ≤ 9223372036854775807) :
    Calls Try.prog 64 #[.agg #[.int .i64 fn, .int .i64 fd], .agg #[.int .i64 gn, .int .i64 gd], .int .i64 (n : Int)] w fun e w' => e = .returned (.tuple #[.agg #[.int .i64 (tpS fn fd gn gd n).1, .int .i64 (tpS fn fd gn gd n).2.1], .bool (tpS fn fd gn gd n).2.2]) ∧ Below w.heap.size w w' := by
  have F0 := Lib.hid (fbox_alloc (fbox_alloc (fbox_new w (.int .i64 fn) (.int .i64 fd) 24) (.cells #[.int .i64 gn, .int .i64 gd] 24)) (.cells #[.int .i64 0, .int .i64 0] 24))
  have G0 := Lib.hid (fbox_alloc (fbox_new (w.alloc (.cells #[.int .i64 fn, .int .i64 fd] 24)) (.int .i64 gn) (.int .i64 gd) 24) (.cells #[.int .i64 0, .int .i64 0] 24))
  have R0 := Lib.hid (fbox_new ((w.alloc (.cells #[.int .i64 fn, .int .i64 fd] 24)).alloc (.cells #[.int .i64 gn, .int .i64 gd] 24)) (.int .i64 0) (.int .i64 0) 24)
  have B0 := Lib.hid (balloc (balloc (balloc (Below.refl w.heap.size w) (.cells #[.int .i64 fn, .int .i64 fd] 24)) (.cells #[.int .i64 gn, .int .i64 gd] 24)) (.cells #[.int .i64 0, .int .i64 0] 24))
  have e1 : (w.alloc (.cells #[.int .i64 fn, .int .i64 fd] 24)).heap.size = w.heap.size + 1 := by simp
  have e2 : ((w.alloc (.cells #[.int .i64 fn, .int .i64 fd] 24)).alloc (.cells #[.int .i64 gn, .int .i64 gd] 24)).heap.size = w.heap.size + 1 + 1 := by simp
  have t0 : T3 w _ _ _ _ _ _ _ _ _ _ := ⟨F0.out, G0.out, R0.out, B0.out⟩
  rw [e1, e2] at t0
  have TT0 := Lib.hid t0
  have HB := Lib.hid (fun k => tpS_bd (fd := fd) (gn := gn) (gd := gd) wf1 wf2 k)
  clear t0 e1 e2 F0 G0 R0 B0
  go_enter Try.func64, Try.ntmps64
  go_wp2_with fail
  refine (validFraction_impl _ _ _ wf1 wf2).mono ?_; rintro e w1 ⟨rfl, hb1⟩
  have T1 := Lib.hid (T3.keep TT0.out hb1)
  clear hb1 TT0
  go_wp2_with fail
  go_loopw [8, 12] (fun ok i wr => ∃ k : Nat, k ≤ n ∧ i = .int .i64 k ∧ ok = .bool (tpS fn fd gn gd k).2.2 ∧ T3 w wr w.heap.size (w.heap.size + 1) (w.heap.size + 1 + 1) (.int .i64 (tpS fn fd gn gd k).1) (.int .i64 (tpS fn fd gn gd k).2.1) (.int .i64 gn) (.int .i64 gd) (.int .i64 0) (.int .i64 0)) (fun _ i _ => n - (intOf i).toNat)
  case atStart => exact ⟨0, Nat.zero_le _, rfl, rfl, T1.out⟩
  case round =>
    obtain ⟨k, hk, rfl, rfl, ht⟩ := hrel
    have HT := Lib.hid ht
    clear ht T1
    by_cases hlt : k < n
    · have hk1 : (k : Int) < (n : Int) := by omega
      have wk : IntKind.i64.wrap ((k : Int) + 1) = (k : Int) + 1 := IntWalk.i64_in _ (by omega)
      obtain ⟨b1, b2⟩ := HB.out k
      have HM := Lib.hid (fun W => mul_impl (tpS fn fd gn gd k).1 (tpS fn fd gn gd k).2.1 gn gd W b1 b2 wg1 wg2)
      generalize hx : (tpS fn fd gn gd k).1 = x at *
      generalize hy : (tpS fn fd gn gd k).2.1 = y at *
      generalize hz : (tpS fn fd gn gd k).2.2 = z at *
      have HX := Lib.hid hx
      have HY := Lib.hid hy
      have HZ := Lib.hid hz
      clear hx hy hz
      have HE : Hid (tpS fn fd gn gd (k + 1) = (mlN x y gn gd, mlD x y gn gd, mlB x y gn gd)) := by
        show _ = _
        rw [tpS, HX.out, HY.out]
      generalize mlN x y gn gd = x2 at *
      generalize mlD x y gn gd = y2 at *
      generalize mlB x y gn gd = z2 at *
      obtain ⟨q0, q1, q2, q3, -⟩ := HT.out.cells
      go_wp2_with fail
      refine (HM.out _).mono ?_; rintro e w2 ⟨rfl, hb2⟩
      have T2 := Lib.hid (T3.keep HT.out hb2)
      clear hb2 q0 q1 q2 q3
      obtain ⟨⟨⟨q0, q1, -⟩, q2, q3⟩, -⟩ := T2.out
      have T4 := Lib.hid (T3.set T2.out (by omega) (by omega) (Nat.le_refl _) (.int .i64 x2) (.int .i64 y2))
      go_wp2_with fail
      go_roundw
      case rel => exact ⟨k + 1, by omega, by first | rfl | (congr 1; omega), by rw [HE.out], by rw [HE.out]; exact T4.out⟩
      case measure => first | (simp [intOf]; done) | (simp [intOf]; omega)
    · obtain rfl : k = n := by omega
      obtain ⟨q0, q1, -, -, -⟩ := HT.out.cells
      have tt := HT.out
      obtain ⟨-, -, ⟨⟨z0, z1, -⟩, z2, z3⟩, tb⟩ := tt
      generalize hx : (tpS fn fd gn gd k).1 = x at *
      generalize hy : (tpS fn fd gn gd k).2.1 = y at *
      generalize hz : (tpS fn fd gn gd k).2.2 = z at *
      have HX := Lib.hid hx
      have HY := Lib.hid hy
      have HZ := Lib.hid hz
      clear hx hy hz
      go_wp2_with fail
      refine bodyPost_ret (v := .tuple #[.agg #[.int .i64 x, .int .i64 y], .bool z]) (by simp [results, Try.results64, go_sem, z0, z1]) rfl ⟨by rw [HX.out, HY.out, HZ.out], ?_⟩
      exact (tb.setCell (by simp; omega) _).setCell (by simp; omega) _
end Go.Proofs.Ytmhdjimdhcephab
