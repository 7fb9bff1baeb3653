/- AddCheck, HasCheck, CheckOrder: the model's and the program's. -/
import Derived.Test.YtnpigefbdadjfaaDoorCki
namespace Go.Proofs.YtnpigefbdadjfaaDoor
open Go Go.RowKit
set_option linter.unusedVariables false

/-- What AddCheck answers. -/
def acOk (p : Int) (l : List UInt8) : Bool := ckOk p l && decide (l.length + Nat.log2 p.toNat ≤ 400)
def acV (p : Int) (s : ByteArray) : ByteArray := if acOk p s.data.toList then s ++ ⟨(cbL p.toNat s.data.toList).toArray⟩ else ⟨#[]⟩
theorem ac_no {p : Int} {s : ByteArray} (h : acOk p s.data.toList = false) : acV p s = ⟨#[]⟩ := by unfold acV; rw [h]; rfl
theorem ac_yes {p : Int} {s : ByteArray} (h : acOk p s.data.toList = true) : acV p s = s ++ ⟨(cbL p.toNat s.data.toList).toArray⟩ := by unfold acV; rw [h]; rfl
theorem ckOk_parts {p : Int} {l : List UInt8} (h : ckOk p l = true) : ckB p = true ∧ isB l = true := Bool.and_eq_true_iff.1 h
/-- What HasCheck answers. -/
def hcB (p : Int) (l : List UInt8) : Bool := ckOk p l && decide (rd p.toNat (Nat.log2 p.toNat) (nbl l) = 0)
theorem ret_b8 {a b : Bool} (h : a = b) : (Ending.returned (.bool a) : Ending) = .returned (.bool b) := by rw [h]
set_option maxHeartbeats 1000000 in
theorem hasCheck_impl (p : Int) (s : ByteArray) (w : World) (hs : s.size ≤ maxLen) (a : Addr) (hv : Ev 0 a w) :
    Calls Tryd.prog 54 #[.int .i64 p, .string s] w fun e w' => e = .returned (.bool (hcB p s.data.toList)) ∧ Below w.heap.size w w' := by
  cases g0 : ckB p
  · have hb : hcB p s.data.toList = false := by unfold hcB ckOk; rw [g0]; rfl
    rw [hb]
    have HC := Lib.hid (dividerOf_no p a w hv g0)
    clear g0 hb hs hv
    go_enter Tryd.func54, Tryd.ntmps54
    go_wp2_with fail
    refine HC.out.mono ?_; rintro e w1 ⟨rfl, hb1⟩
    have B1 := Lib.hid hb1
    clear hb1
    go_wp2_with fail
    go_ret
    exact ⟨rfl, B1.out⟩
  · have HT := Lib.hid (fun W => isBits_any s W hs)
    have HC := Lib.hid (dividerOf_yes p w g0)
    cases g1 : isB s.data.toList
    · have hb : hcB p s.data.toList = false := by unfold hcB ckOk; rw [g0, g1]; rfl
      rw [hb]
      rw [g1] at HT
      clear g0 g1 hb hs hv
      go_enter Tryd.func54, Tryd.ntmps54
      go_wp2_with fail
      refine HC.out.mono ?_; rintro e w1 ⟨b, rfl, hlo, hd1, hb1⟩
      have B1 := Lib.hid hb1
      clear hb1 hd1 hlo
      go_wp2_with fail
      refine (HT.out _).mono ?_; rintro e w2 ⟨rfl, hb2⟩
      have B2 := Lib.hid (B1.out.trans (hb2.mono B1.out.size))
      clear hb2
      go_wp2_with fail
      go_ret
      exact ⟨rfl, B2.out⟩
    · rw [g1] at HT
      obtain ⟨P, rfl, p1, p2, hg, p4, -⟩ := ck_nat g0
      rw [Int.toNat_natCast] at HC
      have hb : hcB (P : Int) s.data.toList = decide (rd P (Nat.log2 P) (nbl s.data.toList) = 0) := by unfold hcB ckOk; rw [g0, g1, Int.toNat_natCast]; rfl
      rw [hb]
      have HBT := Lib.hid (fun W => bot_any s W g1)
      have hvb := bytes_rd (P := P) g1
      have HRB := Lib.hid (fun b v W hd hr => rob_any b P (Nat.log2 P) v _ W hd hr (dby_lt (nbits (btN s.data.toList) 0) ((s.size + 7) / 8)) hg p4)
      rw [show s.data.toList.length = s.size from rfl] at hvb
      rw [hvb] at HRB
      clear g0 g1 hb hs hv p1 p2 hg p4 hvb
      generalize dby (nbits (btN s.data.toList) 0) ((s.size + 7) / 8) = B at *
      generalize rd P (Nat.log2 P) (nbl s.data.toList) = R at *
      go_enter Tryd.func54, Tryd.ntmps54
      go_wp2_with fail
      refine HC.out.mono ?_; rintro e w1 ⟨b, rfl, hlo, hd1, hb1⟩
      have B1 := Lib.hid hb1
      have D1 := Lib.hid hd1
      clear hb1 hd1
      go_wp2_with fail
      refine (HT.out _).mono ?_; rintro e w2 ⟨rfl, hb2⟩
      have B2 := Lib.hid (B1.out.trans (hb2.mono B1.out.size))
      have D2 := Lib.hid (D1.out.keep hb2)
      have hl2 := D2.out.lt
      clear hb2 D1
      go_wp2_with fail
      refine (HBT.out _).mono ?_; rintro e w3 ⟨v3, rfl, hr3, hb3⟩
      have R3 := Lib.hid (hr3 b hl2)
      have D3 := Lib.hid (D2.out.keep hb3)
      have B3 := Lib.hid (B2.out.trans (hb3.mono B2.out.size))
      clear hr3 hb3
      go_wp2_with fail
      refine (HRB.out _ _ _ D3.out R3.out).mono ?_; rintro e w4 ⟨rfl, hd4, ho4⟩
      have B4 := Lib.hid (ho4.below B3.out hlo B3.out.size)
      clear hd4 ho4
      go_wp2_with fail
      go_ret
      refine ⟨?_, B4.out⟩
      first | rfl | exact ret_b8 (by rw [Bool.eq_iff_iff]; simp) | trace_state
/-- What CheckOrder answers. -/
def orOk (p : Int) : Bool := ckB p && decide (p % 2 = 1)
def orV (p : Int) : Int := if orOk p then (ordN p.toNat (Nat.log2 p.toNat) : Nat) else 0
theorem or_no {p : Int} (h : orOk p = false) : orV p = 0 := by unfold orV; rw [h]; rfl
theorem or_yes {p : Int} (h : orOk p = true) : orV p = (ordN p.toNat (Nat.log2 p.toNat) : Nat) := by unfold orV; rw [h]; rfl
end Go.Proofs.YtnpigefbdadjfaaDoor
