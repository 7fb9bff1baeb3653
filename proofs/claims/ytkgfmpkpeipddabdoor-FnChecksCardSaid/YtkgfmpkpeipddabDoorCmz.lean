/- CountMissed: the model's and the program's. -/
import Derived.Test.YtkgfmpkpeipddabDoorCmy
import Derived.Test.YtkgfmpkpeipddabDoorCmx
import Derived.Test.YtkgfmpkpeipddabDoorDvo
import Derived.Test.YtkgfmpkpeipddabDoorCkn
import Derived.Test.YtkgfmpkpeipddabDoorBtw
namespace Go.Proofs.YtkgfmpkpeipddabDoor
open Go Go.RowKit
set_option linter.unusedVariables false

def cmOk8 (p L c : Int) : Bool := (ckB p && decide (1 ≤ L ∧ L ≤ 32)) && decide (1 ≤ c ∧ c ≤ 4)
def cmV8 (p L c : Int) : Int := if cmOk8 p L c then (cmN p.toNat (Nat.log2 p.toNat) L.toNat c.toNat : Nat) else 0
theorem cm8_no {p L c : Int} (h : cmOk8 p L c = false) : cmV8 p L c = 0 := by unfold cmV8; rw [h]; rfl
theorem cm8_yes {p L c : Int} (h : cmOk8 p L c = true) : cmV8 p L c = (cmN p.toNat (Nat.log2 p.toNat) L.toNat c.toNat : Nat) := by unfold cmV8; rw [h]; rfl
theorem l00In_b (x a b : Int) (w : World) :
    Calls Tryd.prog 44 #[.int .i64 x, .int .i64 a, .int .i64 b] w fun e w' => e = .returned (.bool (decide (a ≤ x ∧ x ≤ b))) ∧ w = w' := by
  by_cases h : a ≤ x ∧ x ≤ b
  · rw [decide_eq_true h]; exact l00In_yes x a b w h.1 h.2
  · rw [decide_eq_false h]; exact l00In_no x a b w h
theorem btw_b (x a b : Int) (w : World) :
    Calls Tryd.prog 46 #[.int .i64 x, .int .i64 a, .int .i64 b] w fun e w' => e = .returned (.bool (decide (a ≤ x ∧ x ≤ b))) ∧ w = w' := by
  by_cases h : a ≤ x ∧ x ≤ b
  · rw [decide_eq_true h]; exact btw_yes x a b w h.1 h.2
  · rw [decide_eq_false h]; exact btw_no x a b w h

set_option maxRecDepth 100000 in
set_option maxHeartbeats 1000000 in
theorem countMissed_spec (p L c : Int) (w : World) :
    Calls Tryd.prog 20 #[.int .i64 p, .int .i64 L, .int .i64 c] w fun e w' => e = .returned (.tuple #[.int .i64 (cmV8 p L c), .bool (cmOk8 p L c)]) ∧ Below w.heap.size w w' := by
  have HC := Lib.hid (fun W => l08Check_any p W)
  have HL := Lib.hid (fun W => l00In_b L 1 32 W)
  have HD := Lib.hid (fun W => l00In_b c 1 4 W)
  cases g0 : ckB p
  · have hb : cmOk8 p L c = false := by unfold cmOk8; rw [g0]; rfl
    rw [cm8_no hb, hb]
    rw [g0] at HC
    clear g0 hb
    go_enter Tryd.func20, Tryd.ntmps20
    go_wp2_with fail
    refine (HC.out _).mono ?_; rintro e w' ⟨rfl, rfl⟩
    go_wp2_with fail
    go_ret2
    exact ⟨rfl, Below.refl _ _⟩
  · cases g1 : decide (1 ≤ L ∧ L ≤ 32)
    · have hb : cmOk8 p L c = false := by unfold cmOk8; rw [g0, g1]; rfl
      rw [cm8_no hb, hb]
      rw [g0] at HC
      rw [g1] at HL
      clear g0 g1 hb
      go_enter Tryd.func20, Tryd.ntmps20
      go_wp2_with fail
      refine (HC.out _).mono ?_; rintro e w' ⟨rfl, rfl⟩
      go_wp2_with fail
      refine (HL.out _).mono ?_; rintro e w' ⟨rfl, rfl⟩
      go_wp2_with fail
      go_ret2
      exact ⟨rfl, Below.refl _ _⟩
    · cases g2 : decide (1 ≤ c ∧ c ≤ 4)
      · have hb : cmOk8 p L c = false := by unfold cmOk8; rw [g0, g1, g2]; rfl
        rw [cm8_no hb, hb]
        rw [g0] at HC
        rw [g1] at HL
        rw [g2] at HD
        clear g0 g1 g2 hb
        go_enter Tryd.func20, Tryd.ntmps20
        go_wp2_with fail
        refine (HC.out _).mono ?_; rintro e w' ⟨rfl, rfl⟩
        go_wp2_with fail
        refine (HL.out _).mono ?_; rintro e w' ⟨rfl, rfl⟩
        go_wp2_with fail
        refine (HD.out _).mono ?_; rintro e w' ⟨rfl, rfl⟩
        go_wp2_with fail
        go_ret2
        exact ⟨rfl, Below.refl _ _⟩
      · have hb : cmOk8 p L c = true := by unfold cmOk8; rw [g0, g1, g2]; rfl
        rw [cm8_yes hb, hb]
        obtain ⟨P, rfl, p1, p2, hg, p4, p5⟩ := ck_nat g0
        have hl := of_decide_eq_true g1
        have hc := of_decide_eq_true g2
        rw [g0] at HC
        rw [g1] at HL
        rw [g2] at HD
        obtain ⟨L, rfl⟩ := Int.eq_ofNat_of_zero_le (show 0 ≤ L by omega)
        obtain ⟨c, rfl⟩ := Int.eq_ofNat_of_zero_le (show 0 ≤ c by omega)
        rw [Int.toNat_natCast, Int.toNat_natCast, Int.toNat_natCast]
        have HM := Lib.hid (fun W => l08Count_any P L c W p1 p2 hg p4 p5 (by omega) (by omega))
        generalize cmN P (Nat.log2 P) L c = X at *
        clear g0 g1 g2 hb hg p1 p2 p4 p5 hl hc
        go_enter Tryd.func20, Tryd.ntmps20
        go_wp2_with fail
        refine (HC.out _).mono ?_; rintro e w' ⟨rfl, rfl⟩
        go_wp2_with fail
        refine (HL.out _).mono ?_; rintro e w' ⟨rfl, rfl⟩
        go_wp2_with fail
        refine (HD.out _).mono ?_; rintro e w' ⟨rfl, rfl⟩
        go_wp2_with fail
        refine (HM.out _).mono ?_; rintro e w1 ⟨rfl, hb1⟩
        have B1 := Lib.hid hb1
        clear hb1
        go_wp2_with fail
        go_ret2
        exact ⟨rfl, B1.out⟩
set_option maxRecDepth 100000 in
set_option maxHeartbeats 1000000 in
theorem countMissed_impl (p L c : Int) (w : World) (a : Addr) (hv : Ev 0 a w) :
    Calls Tryd.prog 21 #[.int .i64 p, .int .i64 L, .int .i64 c] w fun e w' => e = .returned (.tuple #[.int .i64 (cmV8 p L c), .bool (cmOk8 p L c)]) ∧ Below w.heap.size w w' := by
  have HL := Lib.hid (fun W => btw_b L 1 32 W)
  have HD := Lib.hid (fun W => btw_b c 1 4 W)
  cases g0 : ckB p
  · have hb : cmOk8 p L c = false := by unfold cmOk8; rw [g0]; rfl
    rw [cm8_no hb, hb]
    have HC := Lib.hid (dividerOf_no p a w hv g0)
    clear g0 hb hv
    go_enter Tryd.func21, Tryd.ntmps21
    go_wp2_with fail
    refine HC.out.mono ?_; rintro e w1 ⟨rfl, hb1⟩
    have B1 := Lib.hid hb1
    clear hb1
    go_wp2_with fail
    go_ret2
    exact ⟨rfl, B1.out⟩
  · have HC := Lib.hid (dividerOf_yes p w g0)
    cases g1 : decide (1 ≤ L ∧ L ≤ 32)
    · have hb : cmOk8 p L c = false := by unfold cmOk8; rw [g0, g1]; rfl
      rw [cm8_no hb, hb]
      rw [g1] at HL
      clear g0 g1 hb hv
      go_enter Tryd.func21, Tryd.ntmps21
      go_wp2_with fail
      refine HC.out.mono ?_; rintro e w1 ⟨b, rfl, hlo, hd1, hb1⟩
      have B1 := Lib.hid hb1
      clear hb1 hlo hd1
      go_wp2_with fail
      refine (HL.out _).mono ?_; rintro e w' ⟨rfl, rfl⟩
      go_wp2_with fail
      go_ret2
      exact ⟨rfl, B1.out⟩
    · cases g2 : decide (1 ≤ c ∧ c ≤ 4)
      · have hb : cmOk8 p L c = false := by unfold cmOk8; rw [g0, g1, g2]; rfl
        rw [cm8_no hb, hb]
        rw [g1] at HL
        rw [g2] at HD
        clear g0 g1 g2 hb hv
        go_enter Tryd.func21, Tryd.ntmps21
        go_wp2_with fail
        refine HC.out.mono ?_; rintro e w1 ⟨b, rfl, hlo, hd1, hb1⟩
        have B1 := Lib.hid hb1
        clear hb1 hlo hd1
        go_wp2_with fail
        refine (HL.out _).mono ?_; rintro e w' ⟨rfl, rfl⟩
        go_wp2_with fail
        refine (HD.out _).mono ?_; rintro e w' ⟨rfl, rfl⟩
        go_wp2_with fail
        go_ret2
        exact ⟨rfl, B1.out⟩
      · have hb : cmOk8 p L c = true := by unfold cmOk8; rw [g0, g1, g2]; rfl
        rw [cm8_yes hb, hb]
        obtain ⟨P, rfl, p1, p2, hg, p4, p5⟩ := ck_nat g0
        rw [Int.toNat_natCast] at HC
        have hl := of_decide_eq_true g1
        have hc := of_decide_eq_true g2
        rw [g1] at HL
        rw [g2] at HD
        obtain ⟨L, rfl⟩ := Int.eq_ofNat_of_zero_le (show 0 ≤ L by omega)
        obtain ⟨c, rfl⟩ := Int.eq_ofNat_of_zero_le (show 0 ≤ c by omega)
        rw [Int.toNat_natCast, Int.toNat_natCast, Int.toNat_natCast]
        have HM := Lib.hid (fun b W hd => countMissed_any b P (Nat.log2 P) L c W hd hg p4 (by omega) (by omega) (by omega))
        generalize cmN P (Nat.log2 P) L c = X at *
        clear g0 g1 g2 hb hg p1 p2 p4 p5 hl hc hv
        go_enter Tryd.func21, Tryd.ntmps21
        go_wp2_with fail
        refine HC.out.mono ?_; rintro e w1 ⟨b, rfl, hlo, hd1, hb1⟩
        have B1 := Lib.hid hb1
        have M1 := Lib.hid (HM.out _ _ hd1)
        clear hb1 hlo hd1 HM HC
        go_wp2_with fail
        refine (HL.out _).mono ?_; rintro e w' ⟨rfl, rfl⟩
        go_wp2_with fail
        refine (HD.out _).mono ?_; rintro e w' ⟨rfl, rfl⟩
        go_wp2_with fail
        refine M1.out.mono ?_; rintro e w2 ⟨rfl, hb2⟩
        have B2 := Lib.hid (B1.out.trans (hb2.mono B1.out.size))
        clear hb2
        go_wp2_with fail
        go_ret2
        exact ⟨rfl, B2.out⟩
end Go.Proofs.YtkgfmpkpeipddabDoor
