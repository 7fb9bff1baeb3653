/- MostInRow: the model's and the program's. -/
import Derived.Test.YtnpigefbdadjfaaDoorPbi
import Derived.Test.YtnpigefbdadjfaaDoorInts
import Derived.Test.YtnpigefbdadjfaaDoorMm8
namespace Go.Proofs.YtnpigefbdadjfaaDoor
open Go Go.RowKit
set_option linter.unusedVariables false

/-- What MostInRow answers. -/
def miOk (r c b : Int) : Bool := sdB r c && decide (1 ≤ b ∧ b ≤ r * c)
def miV (r c b : Int) : Int := if miOk r c b then (mxR r.toNat b.toNat : Nat) else 0
theorem mi_no {r c b : Int} (h : miOk r c b = false) : miV r c b = 0 := by unfold miV; rw [h]; rfl
theorem mi_yes {r c b : Int} (h : miOk r c b = true) : miV r c b = (mxR r.toNat b.toNat : Nat) := by unfold miV; rw [h]; rfl
def i64V (l : List Nat) : List Value := l.map (fun (x : Nat) => Value.int .i64 (x : Int))
theorem i64V_set (l : List Nat) (j x : Nat) : (i64V l).set j (.int .i64 (x : Int)) = i64V (l.set j x) := by unfold i64V; rw [List.map_set]
theorem i64V_at (l : List Nat) (j : Nat) (h : j < l.length) : (i64V l)[j]? = some (.int .i64 ((l.getD j 0 : Nat) : Int)) := by
  unfold i64V; rw [List.getElem?_map, List.getElem?_eq_getElem h, List.getD_eq_getElem?_getD, List.getElem?_eq_getElem h]; rfl
set_option maxHeartbeats 1000000 in
theorem mostInRow_impl (r c b : Int) (w : World) (a : Addr) (hv : Ev 0 a w) :
    Calls Tryd.prog 49 #[.int .i64 r, .int .i64 c, .int .i64 b] w fun e w' => e = .returned (.tuple #[.int .i64 (miV r c b), .bool (miOk r c b)]) ∧ Below w.heap.size w w' := by
  cases g0 : sdB r c
  · have hb : miOk r c b = false := by unfold miOk; rw [g0]; rfl
    rw [mi_no hb, hb]
    have HB := Lib.hid (blockOf_no r c a w hv g0)
    clear g0 hb hv
    go_enter Tryd.func49, Tryd.ntmps49
    go_wp2_with fail
    refine HB.out.mono ?_; rintro e w1 ⟨rfl, hb1⟩
    have B1 := Lib.hid hb1
    clear hb1
    go_wp2_with fail
    go_ret2
    exact ⟨rfl, B1.out.alloc B1.out.size _⟩
  · have HB := Lib.hid (blockOf_yes r c w g0)
    obtain ⟨R, C, rfl, rfl, r1, r2, c1, c2, h4, h5⟩ := sd_nat g0
    have HI := Lib.hid (fun W => is8 b 1 ((R * C : Nat) : Int) W)
    have HP := Lib.hid (fun W => places_any R C W h4)
    by_cases hi : 1 ≤ b ∧ b ≤ ((R * C : Nat) : Int)
    · have hb : miOk (R : Int) (C : Int) b = true := by unfold miOk; rw [g0, ← Int.natCast_mul, decide_eq_true hi]; rfl
      rw [mi_yes hb, hb]
      rw [decide_eq_true hi] at HI
      obtain ⟨u, rfl⟩ := Int.eq_ofNat_of_zero_le (show 0 ≤ b by omega)
      rw [Int.toNat_natCast, Int.toNat_natCast]
      have hm : mxR R u = (u - 1) / R + 1 := by unfold mxR; rw [if_neg (by omega)]
      rw [hm]
      obtain ⟨v, hv1⟩ : ∃ v, v = u - 1 := ⟨_, rfl⟩
      have ev : (u : Int) - 1 = (v : Int) := by omega
      obtain ⟨q, hq⟩ : ∃ q, q = v / R := ⟨_, rfl⟩
      have eq : (v : Int) / (R : Int) = (q : Int) := by rw [hq]; exact (Int.natCast_ediv v R).symm
      have hql : q ≤ 400 := by rw [hq]; have := Nat.div_le_self v R; omega
      rw [← hv1, ← hq]
      have eq1 : (q : Int) + 1 = ((q + 1 : Nat) : Int) := by omega
      have hR0 : ((R : Int) == 0) = false := by simpa using (show ¬ R = 0 by omega)
      have hR1 : (0 : Int) < (R : Int) := by omega
      have hv0 : (0 : Int) ≤ (v : Int) := by omega
      have eqw : IntKind.i64.wrap (q : Int) = (q : Int) := IntWalk.i64_in _ (by omega)
      have eqw2 : IntKind.i64.wrap ((q : Int) + 1) = ((q + 1 : Nat) : Int) := by rw [eq1]; exact IntWalk.i64_in _ (by omega)
      clear eq1
      have hu1 : (1 : Int) ≤ (u : Int) := hi.1
      have hu2 : (u : Int) ≤ 9223372036854775807 := by omega
      generalize ((R * C : Nat) : Int) = M at *
      clear g0 hb hi r1 r2 c1 c2 h4 h5 hv hm hv1 hq hql
      go_enter Tryd.func49, Tryd.ntmps49
      go_wp2_with fail
      refine HB.out.mono ?_; rintro e w1 ⟨rfl, hb1⟩
      have K1 := Lib.hid (Bk.new w1 [.int .i64 (R : Int), .int .i64 (C : Int)] 128 _ rfl)
      have B1 := Lib.hid (hb1.alloc hb1.size (.cells #[.int .i64 (R : Int), .int .i64 (C : Int)] 128))
      have q0 := K1.out.c 0 _ rfl
      have q1 := K1.out.c 1 _ rfl
      clear hb1
      go_wp2_with fail
      refine (HP.out _).mono ?_; rintro e w2 ⟨rfl, hb2⟩
      have B2 := Lib.hid (B1.out.trans (hb2.mono B1.out.size))
      clear hb2 q0 q1
      go_wp2_with fail
      refine (HI.out _).mono ?_; rintro e w' ⟨rfl, rfl⟩
      go_wp2_with fail
      go_ret2
      exact ⟨rfl, B2.out⟩
    · have hb : miOk (R : Int) (C : Int) b = false := by unfold miOk; rw [← Int.natCast_mul, decide_eq_false hi]; simp
      rw [mi_no hb, hb]
      rw [decide_eq_false hi] at HI
      generalize ((R * C : Nat) : Int) = M at *
      clear g0 hb hi r1 r2 c1 c2 h4 h5 hv
      go_enter Tryd.func49, Tryd.ntmps49
      go_wp2_with fail
      refine HB.out.mono ?_; rintro e w1 ⟨rfl, hb1⟩
      have K1 := Lib.hid (Bk.new w1 [.int .i64 (R : Int), .int .i64 (C : Int)] 128 _ rfl)
      have B1 := Lib.hid (hb1.alloc hb1.size (.cells #[.int .i64 (R : Int), .int .i64 (C : Int)] 128))
      have q0 := K1.out.c 0 _ rfl
      have q1 := K1.out.c 1 _ rfl
      clear hb1
      go_wp2_with fail
      refine (HP.out _).mono ?_; rintro e w2 ⟨rfl, hb2⟩
      have B2 := Lib.hid (B1.out.trans (hb2.mono B1.out.size))
      clear hb2 q0 q1
      go_wp2_with fail
      refine (HI.out _).mono ?_; rintro e w' ⟨rfl, rfl⟩
      go_wp2_with fail
      go_ret2
      exact ⟨rfl, B2.out⟩
end Go.Proofs.YtnpigefbdadjfaaDoor
