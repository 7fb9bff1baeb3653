/- PlaceBehind and MostInRow, the program's; PlaceBehind, the model's. -/
import Derived.Test.YtnpigefbdadjfaaDoorIlb
namespace Go.Proofs.YtnpigefbdadjfaaDoor
open Go Go.RowKit
set_option linter.unusedVariables false

/-- What PlaceBehind answers. -/
def pbOk (r c i : Int) : Bool := sdB r c && decide (0 ≤ i ∧ i ≤ r * c - 1)
def pbV (r c i : Int) : Int := if pbOk r c i then (pb r.toNat c.toNat i.toNat : Nat) else 0
theorem pb_no {r c i : Int} (h : pbOk r c i = false) : pbV r c i = 0 := by unfold pbV; rw [h]; rfl
theorem pb_yes {r c i : Int} (h : pbOk r c i = true) : pbV r c i = (pb r.toNat c.toNat i.toNat : Nat) := by unfold pbV; rw [h]; rfl
theorem sd_nat {r c : Int} (h : sdB r c = true) : ∃ R C : Nat, r = R ∧ c = C ∧ 1 ≤ R ∧ R ≤ 20 ∧ 1 ≤ C ∧ C ≤ 20 ∧ R * C ≤ 400 ∧ 1 ≤ R * C := by
  obtain ⟨⟨a, b⟩, c1, d⟩ := sd_is h
  obtain ⟨R, rfl⟩ := Int.eq_ofNat_of_zero_le (show 0 ≤ r by omega)
  obtain ⟨C, rfl⟩ := Int.eq_ofNat_of_zero_le (show 0 ≤ c by omega)
  exact ⟨R, C, rfl, rfl, by omega, by omega, by omega, by omega, Nat.mul_le_mul (show R ≤ 20 by omega) (show C ≤ 20 by omega), Nat.mul_pos (by omega) (by omega)⟩
/-- The walk of a place's number. -/
theorem pb_walk {R C i : Nat} (hC : 1 ≤ C) (hi : i < R * C) (h : R * C ≤ 400) : ∃ X Y : Nat, (i : Int) % (C : Int) = (X : Int) ∧ (i : Int) / (C : Int) = (Y : Int) ∧ pb R C i = X * R + Y ∧ X * R + Y < 400 := by
  have hp := pb_lt (r := R) (c := C) (i := i) (by omega) hi
  exact ⟨i % C, i / C, (Int.natCast_emod i C).symm, (Int.natCast_ediv i C).symm, rfl, show pb R C i < 400 by omega⟩
set_option maxHeartbeats 1000000 in
theorem placeBehind_impl (r c i : Int) (w : World) (a : Addr) (hv : Ev 0 a w) :
    Calls Tryd.prog 48 #[.int .i64 r, .int .i64 c, .int .i64 i] w fun e w' => e = .returned (.tuple #[.int .i64 (pbV r c i), .bool (pbOk r c i)]) ∧ Below w.heap.size w w' := by
  cases g0 : sdB r c
  · have hb : pbOk r c i = false := by unfold pbOk; rw [g0]; rfl
    rw [pb_no hb, hb]
    have HB := Lib.hid (blockOf_no r c a w hv g0)
    clear g0 hb hv
    go_enter Tryd.func48, Tryd.ntmps48
    go_wp2_with fail
    refine HB.out.mono ?_; rintro e w1 ⟨rfl, hb1⟩
    have B1 := Lib.hid hb1
    clear hb1
    go_wp2_with fail
    go_ret2
    exact ⟨rfl, B1.out.alloc B1.out.size _⟩
  · have HB := Lib.hid (blockOf_yes r c w g0)
    obtain ⟨R, C, rfl, rfl, r1, r2, c1, c2, h4, h5⟩ := sd_nat g0
    have e9 : IntKind.i64.wrap (((R * C : Nat) : Int) - 1) = ((R * C : Nat) : Int) - 1 := IntWalk.i64_in _ (by omega)
    have HI := Lib.hid (fun W => is8 i 0 (((R * C : Nat) : Int) - 1) W)
    have HP := Lib.hid (fun W => places_any R C W h4)
    by_cases hi : 0 ≤ i ∧ i ≤ ((R * C : Nat) : Int) - 1
    · have hb : pbOk (R : Int) (C : Int) i = true := by unfold pbOk; rw [g0, ← Int.natCast_mul, decide_eq_true hi]; rfl
      rw [pb_yes hb, hb]
      rw [decide_eq_true hi] at HI
      obtain ⟨j, rfl⟩ := Int.eq_ofNat_of_zero_le hi.1
      have HQ := Lib.hid (fun W => placeB_any R C j W c1 c2 r2 (by omega))
      rw [Int.toNat_natCast, Int.toNat_natCast, Int.toNat_natCast]
      generalize pb R C j = V at *
      generalize ((R * C : Nat) : Int) = M at *
      clear g0 hb hi r1 r2 c1 c2 h4 h5 hv
      go_enter Tryd.func48, Tryd.ntmps48
      go_wp2_with fail
      refine HB.out.mono ?_; rintro e w1 ⟨rfl, hb1⟩
      have K1 := Lib.hid (Bk.new w1 [.int .i64 (R : Int), .int .i64 (C : Int)] 128 _ rfl)
      have B1 := Lib.hid (hb1.alloc hb1.size (.cells #[.int .i64 (R : Int), .int .i64 (C : Int)] 128))
      have q0 := K1.out.c 0 _ rfl
      have q1 := K1.out.c 1 _ rfl
      clear hb1
      go_wp2_with fail
      refine (HP.out _).mono ?_; rintro e w2 ⟨rfl, hb2⟩
      have K2 := Lib.hid (K1.out.keep hb2)
      have B2 := Lib.hid (B1.out.trans (hb2.mono B1.out.size))
      clear hb2 q0 q1
      have q0 := K2.out.c 0 _ rfl
      have q1 := K2.out.c 1 _ rfl
      go_wp2_with fail
      refine (HI.out _).mono ?_; rintro e w' ⟨rfl, rfl⟩
      go_wp2_with fail
      refine (HQ.out _).mono ?_; rintro e w3 ⟨rfl, hb3⟩
      have B3 := Lib.hid (B2.out.trans (hb3.mono B2.out.size))
      clear hb3 q0 q1
      go_wp2_with fail
      go_ret2
      exact ⟨rfl, B3.out⟩
    · have hb : pbOk (R : Int) (C : Int) i = false := by unfold pbOk; rw [← Int.natCast_mul, decide_eq_false hi]; simp
      rw [pb_no hb, hb]
      rw [decide_eq_false hi] at HI
      generalize ((R * C : Nat) : Int) = M at *
      clear g0 hb hi r1 r2 c1 c2 h4 h5 hv
      go_enter Tryd.func48, Tryd.ntmps48
      go_wp2_with fail
      refine HB.out.mono ?_; rintro e w1 ⟨rfl, hb1⟩
      have K1 := Lib.hid (Bk.new w1 [.int .i64 (R : Int), .int .i64 (C : Int)] 128 _ rfl)
      have B1 := Lib.hid (hb1.alloc hb1.size (.cells #[.int .i64 (R : Int), .int .i64 (C : Int)] 128))
      have q0 := K1.out.c 0 _ rfl
      have q1 := K1.out.c 1 _ rfl
      clear hb1
      go_wp2_with fail
      refine (HP.out _).mono ?_; rintro e w2 ⟨rfl, hb2⟩
      have B2 := Lib.hid (B1.out.trans (hb2.mono B1.out.size))
      clear hb2 q0 q1
      go_wp2_with fail
      refine (HI.out _).mono ?_; rintro e w' ⟨rfl, rfl⟩
      go_wp2_with fail
      go_ret2
      exact ⟨rfl, B2.out⟩
end Go.Proofs.YtnpigefbdadjfaaDoor
