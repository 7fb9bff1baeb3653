/- The program's dividerOf. -/
import Derived.Test.YtnpigefbdadjfaaDoorDvi
import Derived.Test.YtnpigefbdadjfaaDoorIck
import Derived.Test.YtnpigefbdadjfaaDoorOrP
import Derived.Test.YtnpigefbdadjfaaDoorShelfT
import Derived.Deep.RegionWith
import Derived.Deep.RegionHeld
import Derived.Deep.QuietTactic
import Derived.BigQuiet
namespace Go.Proofs.YtnpigefbdadjfaaDoor
open Go Go.RowKit
set_option linter.unusedVariables false

set_option maxRecDepth 100000 in
theorem zero_dv : Tryd.zeroCells178 = (Value.int .u64 0 :: Value.int .i64 0 :: List.replicate 257 (Value.int .u64 0)).toArray := by kernel_rfl
theorem dv0_cells (p d : Nat) : ((Tryd.zeroCells178.setIfInBounds 0 (Value.int .u64 (p : Int))).setIfInBounds 1 (Value.int .i64 (d : Int))) = (dvC p d (List.replicate 256 0) 0).toArray := by
  rw [zero_dv, List.setIfInBounds_toArray, List.setIfInBounds_toArray]
  unfold dvC
  rw [List.map_replicate, List.set_cons_zero, List.set_cons_succ, List.set_cons_zero, show (257 : Nat) = 256 + 1 from rfl, List.replicate_succ']
  rfl
theorem dv_new (p d : Nat) (w : World) : Dv (w.alloc (.cells ((Tryd.zeroCells178.setIfInBounds 0 (Value.int .u64 (p : Int))).setIfInBounds 1 (Value.int .i64 (d : Int))) 178)) w.heap.size p d (List.replicate 256 0) 0 := by
  refine ⟨?_, by rw [List.length_replicate]⟩
  rw [dv0_cells]
  exact Bk.new w (dvC p d (List.replicate 256 0) 0) 178 _ rfl
theorem one_w (x : Nat) (h : x < 18446744073709551616) : IntKind.u64.wrap (x : Int) = (x : Int) := u64_w x h
set_option maxRecDepth 100000 in
set_option maxHeartbeats 2000000 in
theorem dividerOf_yes (p : Int) (w : World) (h : ckB p = true) :
    Calls Tryd.prog 106 #[.int .i64 p] w fun e w' => ∃ b, e = .returned (.tuple #[.pointer (some ⟨b, 0, none⟩), .nilIface]) ∧ w.heap.size ≤ b ∧ Dv w' b p.toNat (Nat.log2 p.toNat) (tlA p.toNat (Nat.log2 p.toNat)) 0 ∧ Below w.heap.size w w' := by
  have hp := of_decide_eq_true h
  obtain ⟨P, rfl⟩ := Int.eq_ofNat_of_zero_le (show 0 ≤ p by omega)
  rw [Int.toNat_natCast]
  have hg := deg_log (n := P) (by omega)
  have HC := Lib.hid (fun W => isCheck_impl (P : Int) W)
  rw [h] at HC
  have hpw : IntKind.u64.wrap (P : Int) = (P : Int) := u64_w P (by omega)
  have HL := Lib.hid (fun W => Tryd.bits_Len64 (P : Int) W (by omega) (by omega))
  rw [Int.toNat_natCast, bitLen_log (by omega) (by omega)] at HL
  obtain ⟨d, hd⟩ : ∃ d, d = Nat.log2 P := ⟨_, rfl⟩
  rw [← hd] at hg HL ⊢
  have h16 : d ≤ 16 := by
    rcases Nat.lt_or_ge d 17 with h1 | h1
    · omega
    · have := Nat.pow_le_pow_right (show 0 < 2 by omega) h1
      have := hg.lo
      omega
  have hm : min d 64 = d := by omega
  have h2 : 2 ^ d ≤ 65536 := Nat.pow_le_pow_right (by omega) h16
  have e1 : IntKind.u64.wrap (2 ^ d : Int) = ((2 ^ d : Nat) : Int) := by
    have := u64_w (2 ^ d) (by omega)
    rw [← this]; congr 1
  have HD0 := Lib.hid (fun (u : World) => dv_new P d u)
  have hP1 : P < 131072 := by omega
  have hT1 : P ^^^ 2 ^ d = tbl P d 1 := (tbl_one hg).symm
  have ex : bits .xor .u64 (P : Int) ((2 ^ d : Nat) : Int) = ((tbl P d 1 : Nat) : Int) := by rw [u64_xor_nat _ _ (by omega) (by omega), hT1]
  have HGD := Lib.hid hg
  have HTX := Lib.hid (fun b T r x W hD hx => timesX_any b P d T r x W hD hg h16 hx)
  have HTL := Lib.hid (fun a => tbl_lt hg a)
  have HEV := Lib.hid (fun a => tbl_even (p := P) (d := d) a)
  have HOD := Lib.hid (fun a => tbl_odd hg a)
  have HSE := Lib.hid (tlH_set P d)
  have HAT := Lib.hid (tlH_at P d)
  have HAL := Lib.hid (tlH_all P d)
  have HXB : Hid (∀ a b, tbl P d a < 65536 ∧ tbl P d b < 65536) := by show ∀ a b, _; intro a b; have h1 := tbl_lt hg a; have h2 := tbl_lt hg b; constructor <;> omega
  clear h hp hd hT1 h2 h16 hg
  obtain ⟨E, hE⟩ : ∃ E, E = 2 ^ d := ⟨_, rfl⟩
  rw [← hE] at e1 ex
  clear hE
  go_enter Tryd.func106, Tryd.ntmps106
  go_wp2_with fail
  refine (HC.out _).mono ?_; rintro e w1 ⟨rfl, hb1⟩
  have B1 := Lib.hid hb1
  clear hb1
  go_wp2_with fail
  refine (HL.out _).mono ?_; rintro e w2 ⟨rfl, rfl⟩
  go_wp2_with fail
  have D0 := Lib.hid (HD0.out w2)
  have B2 := Lib.hid (B1.out.alloc B1.out.size (.cells ((Tryd.zeroCells178.setIfInBounds 0 (Value.int .u64 (P : Int))).setIfInBounds 1 (Value.int .i64 (d : Int))) 178))
  obtain ⟨w3, hw3⟩ : ∃ w3, w3 = w2.alloc (.cells ((Tryd.zeroCells178.setIfInBounds 0 (Value.int .u64 (P : Int))).setIfInBounds 1 (Value.int .i64 (d : Int))) 178) := ⟨_, rfl⟩
  rw [← hw3] at D0 B2 ⊢
  clear hw3
  have hcp := D0.out.cp
  have hcd := D0.out.cd
  have hc1 := D0.out.ca (a := 1) (x := 0) (by rw [List.getElem?_replicate]; rfl)
  have hf1 := D0.out.f 3 (by omega)
  have D1 := Lib.hid (D0.out.seta 1 (tbl P d 1) (by omega))
  rw [tlH_zero] at D1
  go_region
  rename_i K9 hK9
  have D2 : Hid (Dv ((w3.setCell ⟨w2.heap.size, 3, none⟩ (.int .u64 ((tbl P d 1 : Nat) : Int))).drew) w2.heap.size P d (tlH P d 0) 0) := D1.out.keep (Below.refl _ _).drew
  have B3 : Hid (Below w.heap.size w ((w3.setCell ⟨w2.heap.size, 3, none⟩ (.int .u64 ((tbl P d 1 : Nat) : Int))).drew)) := (B2.out.setCell (p := ⟨w2.heap.size, 3, none⟩) B1.out.size _).drew
  have hlo : w.heap.size ≤ w2.heap.size := B1.out.size
  obtain ⟨b, hb⟩ : ∃ b, b = w2.heap.size := ⟨_, rfl⟩
  rw [← hb] at D2 B3 hlo ⊢
  obtain ⟨w4, hw4⟩ : ∃ w4, w4 = ((w3.setCell ⟨b, 3, none⟩ (.int .u64 ((tbl P d 1 : Nat) : Int))).drew) := ⟨_, rfl⟩
  rw [← hw4] at D2 B3 ⊢
  clear hw4 D1 B2 D0 hcp hcd hc1 hf1 hb HD0 B1 ex e1 hpw HL HC
  go_wp2_with fail
  go_loopw [5, 6, 33] (fun _ _ i wr => ∃ h : Nat, h ≤ 128 ∧ i = .int .i64 h ∧ Dv wr b P d (tlH P d h) 0 ∧ Below w.heap.size w wr) (fun _ _ i _ => 128 - (intOf i).toNat)
  case atStart => exact ⟨0, Nat.zero_le _, rfl, D2.out, B3.out⟩
  case round =>
    obtain ⟨h, hh, rfl, hD, hB⟩ := hrel
    have HD := Lib.hid hD
    have HB := Lib.hid hB
    clear hD hB D2 B3
    by_cases hlt : h < 128
    · have h0 : (0 : Int) ≤ (h : Int) := by omega
      have h1 : (h : Int) < 128 := by omega
      have hc := HD.out.ca (HAT.out h h (by omega) (by omega))
      have HT := Lib.hid (HTX.out b _ _ _ wr HD.out (HTL.out h))
      rw [← HEV.out h] at HT
      obtain ⟨A, hA⟩ : ∃ A, A = 2 * h := ⟨_, rfl⟩
      have eA : 2 * (h : Int) = (A : Int) := by omega
      have hA1 : (A : Int) < 255 := by omega
      have hA0 : (0 : Int) ≤ (A : Int) := by omega
      rw [← hA] at HT
      have hc2 := HD.out.f (2 + A) (by omega)
      have hc3 : ∃ u, wr.cell? ⟨b, 2 + A, none⟩ = some u := ⟨_, HD.out.ca (List.getElem?_eq_getElem (by rw [tlH_len]; omega))⟩
      have hc5 : ∃ u, wr.cell? ⟨b, 2 + (A + 1), none⟩ = some u := ⟨_, HD.out.ca (List.getElem?_eq_getElem (by rw [tlH_len]; omega))⟩
      obtain ⟨u3, hc3⟩ := hc3
      clear hc5
      have HSE2 := Lib.hid (HSE.out h (by omega))
      have HO2 := Lib.hid (HOD.out h)
      rw [← hA] at HSE2 HO2
      have hxb := HXB.out A 1
      have ex2 : bits .xor .u64 ((tbl P d A : Nat) : Int) ((tbl P d 1 : Nat) : Int) = ((tbl P d (A + 1) : Nat) : Int) := by rw [u64_xor_nat _ _ (by omega) (by omega), HO2.out]
      have HD6 := Lib.hid (HD.out.seta A (tbl P d A) (by omega))
      have HB6 := Lib.hid (HB.out.setCell (p := ⟨b, 2 + A, none⟩) hlo (.int .u64 ((tbl P d A : Nat) : Int)))
      have h10 : ((tlH P d h).set A (tbl P d A))[1]? = some (tbl P d 1) := by
        rw [List.getElem?_set]
        by_cases e : A = 1
        · exfalso; omega
        · rw [if_neg e]; exact HAT.out h 1 (by omega) (.inr (.inl rfl))
      have c10 := HD6.out.ca h10
      have c11 : ∃ u, (wr.setCell ⟨b, 2 + A, none⟩ (.int .u64 ((tbl P d A : Nat) : Int))).cell? ⟨b, 2 + (A + 1), none⟩ = some u := ⟨_, HD6.out.ca (List.getElem?_eq_getElem (by rw [List.length_set, tlH_len]; omega))⟩
      obtain ⟨u11, c11⟩ := c11
      have f11 := HD6.out.f (2 + (A + 1)) (by omega)
      have HD7 := Lib.hid (HD6.out.seta (A + 1) (tbl P d (A + 1)) (by omega))
      rw [HSE2.out] at HD7
      have HB7 := Lib.hid (HB6.out.setCell (p := ⟨b, 2 + (A + 1), none⟩) hlo (.int .u64 ((tbl P d (A + 1) : Nat) : Int)))
      clear hA hxb h10 HSE2 HO2 HSE HOD HEV HXB HTL
      generalize tbl P d A = TA at *
      generalize tbl P d (A + 1) = TB at *
      generalize tbl P d 1 = TO at *
      go_wp2_with fail
      refine HT.out.mono ?_; rintro e w5 ⟨rfl, rfl⟩
      go_wp2_with fail
      have c10' : (wr.setCell ⟨b, 2 + A, none⟩ (.int .u64 (TA : Int))).cell? ⟨b, 3, none⟩ = some (.int .u64 (TO : Int)) := c10
      clear c10
      obtain ⟨w6, hw6⟩ : ∃ w6, w6 = wr.setCell ⟨b, 2 + A, none⟩ (.int .u64 (TA : Int)) := ⟨_, rfl⟩
      rw [← hw6] at c10' c11 f11 HD7 HB7 ⊢
      clear hw6 HD6 HB6 hc hc2 hc3
      go_region
      all_goals
        go_wp2_with fail
        go_roundw
        case rel => exact ⟨h + 1, by omega, by go_num, HD7.out.keep (Below.refl _ _).drew, HB7.out.drew⟩
        case measure => simp [intOf]; omega
    · obtain rfl : h = 128 := by omega
      rw [HAL.out] at HD
      clear HSE HAT HAL HOD HEV HXB HTL HTX HGD
      go_wp2_with fail
      go_ret2
      exact ⟨_, rfl, hlo, HD.out, HB.out⟩
theorem dividerOf_no (p : Int) (a : Addr) (w : World) (hv : Ev 0 a w) (h : ckB p = false) :
    Calls Tryd.prog 106 #[.int .i64 p] w fun e w' => e = .returned (.tuple #[.pointer none, .iface 219 (.pointer (some a))]) ∧ Below w.heap.size w w' := by
  have HC := Lib.hid (fun W => isCheck_impl p W)
  rw [h] at HC
  have HV := Lib.hid hv
  clear h hv
  go_enter Tryd.func106, Tryd.ntmps106
  go_wp2_with fail
  refine (HC.out _).mono ?_; rintro e w1 ⟨rfl, hb1⟩
  have hc := (HV.out.keep hb1).cell
  have B1 := Lib.hid hb1
  clear hb1
  go_wp2_with fail
  go_region
  go_wp2_with fail
  go_ret2
  exact ⟨rfl, B1.out.drew⟩
end Go.Proofs.YtnpigefbdadjfaaDoor
