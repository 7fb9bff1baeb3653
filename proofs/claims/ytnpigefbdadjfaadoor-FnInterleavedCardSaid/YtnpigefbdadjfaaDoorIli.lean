/- The program's BlockInterleave, BlockDeinterleave, PlaceBehind. -/
import Derived.Test.YtnpigefbdadjfaaDoorIlb
import Derived.Deep.RegionWith
namespace Go.Proofs.YtnpigefbdadjfaaDoor
open Go Go.RowKit
set_option linter.unusedVariables false

theorem byteVals_set (L : List UInt8) (j : Nat) (x : UInt8) : (byteVals L).set j (.int .u8 (x.toNat : Int)) = byteVals (L.set j x) := by
  unfold byteVals; rw [List.map_set]
theorem own_keep {w w2 : World} {base : Nat} {e : TypeId} {v : Value} {n : Nat} {xs : List Value} (h : w.ownsRow base e 1 v n xs) (hb : Below w.heap.size w w2) : w2.ownsRow base e 1 v n xs :=
  h.kept (row := none) ⟨hb.os, hb.tape, hb.output, hb.size, fun j hj _ => hb.block j hj⟩ (by cases v.ownBlock <;> simp)

set_option maxRecDepth 100000 in
set_option maxHeartbeats 1000000 in
theorem moved_any (R C : Nat) (s : ByteArray) (w : World) (hR : 1 ≤ R) (hR2 : R ≤ 20) (hC : 1 ≤ C) (hC2 : C ≤ 20) (hs : s.size = R * C) :
    Calls Tryd.prog 98 #[.string s, .func (.func 99) #[.agg #[.int .i64 R, .int .i64 C]] #[]] w fun e w' => e = .returned (.string ⟨(blkL R C s.data.toList).toArray⟩) ∧ Below w.heap.size w w' := by
  obtain ⟨i0, hi, hz0, hz1, hz2⟩ := info_parts Tryd.infoByte
  have hRC : R * C ≤ 400 := Nat.mul_le_mul hR2 hC2
  have HPL := Lib.hid (fun i W hi => placeB_any R C i W hC hC2 hR2 hi)
  have HPB := Lib.hid (fun i hi => @pb_lt R C i (by omega) hi)
  have HSET := Lib.hid (fun i hi => mvM_set (by omega) (by omega) s.data.toList i hi (r := R) (c := C))
  have HALL := Lib.hid (mvM_all (r := R) (c := C) (by omega) s.data.toList)
  have HML := Lib.hid (mvM_len R C s.data.toList)
  have HZ := Lib.hid (mvM_zero R C s.data.toList)
  rw [← hs] at HPL HPB HSET HALL HML HZ hRC
  have HGD : Hid (∀ i (h : i < s.size), s.data.toList.getD i 0 = s[i]) := by
    show ∀ i (h : i < s.size), _
    intro i h
    have h' : i < s.data.toList.length := h
    rw [List.getD_eq_getElem?_getD, List.getElem?_eq_getElem h']; rfl
  clear hs hR hR2 hC hC2
  go_enter Tryd.func98, Tryd.ntmps98
  go_wp2_with (at_make; refine wpList_make_full _ rfl _ _ 22 rfl w.heap.size 5 i0 (.int .u8 0) 1 Tryd.underlying22 hi hz0 hz1 _ _ _ _ s.size rfl rfl rfl rfl ?b2 ?b3 (Nat.le_refl _) ?_)
  case b2 => rw [hz2]; omega
  case b3 => unfold maxLen; omega
  intro w1 hown hgrow
  have hb1 : Below w.heap.size w w1 := (Below.refl _ _).grown hgrow (Nat.le_refl _) (by simp)
  rw [toList_madeCells_one] at hown
  have HOZ : Hid (w1.ownsRow w.heap.size 5 1 (.slice (some ⟨w.heap.size, 0, none⟩) s.size s.size) s.size (byteVals (mvM R C s.data.toList 0))) := by
    show World.ownsRow _ _ _ _ _ _ _
    rw [HZ.out, show byteVals (List.replicate s.size 0) = List.replicate s.size (.int .u8 0) by simp [byteVals]]
    exact hown
  have HB1 := Lib.hid hb1
  clear hgrow hown hb1
  go_wp2_with fail
  go_loopw [6, 12] (fun _ i wr => ∃ k : Nat, k ≤ s.size ∧ i = .int .i64 k ∧ wr.ownsRow w.heap.size 5 1 (.slice (some ⟨w.heap.size, 0, none⟩) s.size s.size) s.size (byteVals (mvM R C s.data.toList k)) ∧ Below w.heap.size w wr) (fun _ i _ => s.size - (intOf i).toNat)
  case atStart => exact ⟨0, Nat.zero_le _, rfl, HOZ.out, HB1.out⟩
  case round =>
    obtain ⟨k, hk, rfl, hown, hb⟩ := hrel
    have HO := Lib.hid hown
    have HB := Lib.hid hb
    clear hown hb HOZ
    by_cases hlt : k < s.size
    · have hk1 : (k : Int) < (s.size : Int) := by omega
      have hk0 : (0 : Int) ≤ (k : Int) := by omega
      have hp := HPB.out k hlt
      have HP := Lib.hid (fun W => HPL.out k W hlt)
      obtain ⟨x, hx⟩ : ∃ x, x = s[k] := ⟨_, rfl⟩
      have HSE : Hid (byteVals (mvM R C s.data.toList (k + 1)) = (byteVals (mvM R C s.data.toList k)).set (pb R C k) (.int .u8 (x.toNat : Int))) := by
        show _ = _
        rw [byteVals_set, HSET.out k hlt, HGD.out k hlt, hx]
      have hL : (byteVals (mvM R C s.data.toList k)).length = s.size := by rw [byteVals_length, HML.out]
      obtain ⟨u, hu⟩ : ∃ u, (byteVals (mvM R C s.data.toList k))[pb R C k]? = some u := ⟨_, List.getElem?_eq_getElem (by omega)⟩
      obtain ⟨X, hX⟩ : ∃ X : Int, (x.toNat : Int) = X := ⟨_, rfl⟩
      have ex : ((s[k]).toNat : Int) = X := by rw [← hx]; exact hX
      rw [hX] at HSE
      have HU := Lib.hid hu
      clear hx hX hL hu
      generalize pb R C k = j at *
      generalize byteVals (mvM R C s.data.toList k) = L at *
      have hj0 : (0 : Int) ≤ (j : Int) := by omega
      have hj1 : (j : Int) < (s.size : Int) := by omega
      have hp1 : j < s.size * 1 := by omega
      clear HPL HPB HSET HALL HML HZ HGD
      go_wp2_with fail
      go_region_with (go_at_call 99; refine (HP.out _).mono ?_; rintro e w2 ⟨rfl, hb2⟩; have HO2 := Lib.hid (own_keep (HO.out.drew) hb2); have c2 := (HO2.out.cellAt j hp1).trans HU.out; have f2 := HO2.out.frozenAt j; have HB2 := Lib.hid (HB.out.drew.trans (hb2.mono HB.out.drew.size)); clear hb2)
      all_goals
        have HST := Lib.hid (HO2.out.stored j (.int .u8 X)).1
        rw [← HSE.out] at HST
        go_wp2_with fail
        go_roundw
        case rel => exact ⟨k + 1, by omega, by go_num, HST.out, HB2.out.setCell (Nat.le_refl _) _⟩
        case measure => simp [intOf]; omega
    · obtain rfl : k = s.size := by omega
      have ho2 := HO.out
      rw [HALL.out] at ho2
      have hcv := conv_own ho2
      clear ho2 HO HPL HPB HSET HALL HML HZ HGD
      go_wp2_with fail
      go_ret
      exact ⟨rfl, HB.out⟩

set_option maxHeartbeats 1000000 in
theorem blockI_impl (r c : Int) (s : ByteArray) (w : World) (hs : s.size ≤ maxLen) (a : Addr) (hv : Ev 0 a w) :
    Calls Tryd.prog 46 #[.int .i64 r, .int .i64 c, .string s] w fun e w' => e = .returned (.tuple #[.string (blkV r c s.data.toList), .bool (blkOk r c s.data.toList)]) ∧ Below w.heap.size w w' := by
  cases g0 : sdB r c
  · have hb : blkOk r c s.data.toList = false := by unfold blkOk; rw [g0]; rfl
    rw [blk_no hb, hb]
    have HB := Lib.hid (blockOf_no r c a w hv g0)
    clear g0 hb hv hs
    go_enter Tryd.func46, Tryd.ntmps46
    go_wp2_with fail
    refine HB.out.mono ?_; rintro e w1 ⟨rfl, hb1⟩
    have B1 := Lib.hid hb1
    clear hb1
    go_wp2_with fail
    go_ret2
    exact ⟨rfl, B1.out.alloc B1.out.size _⟩
  · have HB := Lib.hid (blockOf_yes r c w g0)
    have HI := Lib.hid (fun W => isBits_any s W hs)
    cases g1 : isB s.data.toList
    · have hb : blkOk r c s.data.toList = false := by unfold blkOk; rw [g0, g1]; rfl
      rw [blk_no hb, hb]
      rw [g1] at HI
      clear g0 g1 hb hv hs
      go_enter Tryd.func46, Tryd.ntmps46
      go_wp2_with fail
      refine HB.out.mono ?_; rintro e w1 ⟨rfl, hb1⟩
      have B1 := Lib.hid (hb1.alloc hb1.size (.cells #[.int .i64 r, .int .i64 c] 128))
      clear hb1
      go_wp2_with fail
      refine (HI.out _).mono ?_; rintro e w2 ⟨rfl, hb2⟩
      have B2 := Lib.hid (B1.out.trans (hb2.mono B1.out.size))
      clear hb2
      go_wp2_with fail
      go_ret2
      exact ⟨rfl, B2.out⟩
    · rw [g1] at HI
      obtain ⟨⟨h1, h2⟩, h3, h4⟩ := sd_is g0
      obtain ⟨R, rfl⟩ := Int.eq_ofNat_of_zero_le (show 0 ≤ r by omega)
      obtain ⟨C, rfl⟩ := Int.eq_ofNat_of_zero_le (show 0 ≤ c by omega)
      have hRC : R * C ≤ 400 := Nat.mul_le_mul (show R ≤ 20 by omega) (show C ≤ 20 by omega)
      have HP := Lib.hid (fun W => places_any R C W hRC)
      by_cases hz : s.size = R * C
      · have hb : blkOk (R : Int) (C : Int) s.data.toList = true := by unfold blkOk; rw [g0, g1, show ((s.data.toList.length : Nat) : Int) = (s.size : Int) from rfl, decide_eq_true (show (s.size : Int) = (R : Int) * (C : Int) by rw [← Int.natCast_mul, hz])]; rfl
        rw [blk_yes hb, hb, Int.toNat_natCast, Int.toNat_natCast]
        have HM := Lib.hid (fun W => moved_any R C s W (by omega) (by omega) (by omega) (by omega) hz)
        rw [← hz] at HP
        clear g0 g1 hb hv hs h1 h2 h3 h4 hz
        go_enter Tryd.func46, Tryd.ntmps46
        go_wp2_with fail
        refine HB.out.mono ?_; rintro e w1 ⟨rfl, hb1⟩
        have K1 := Lib.hid (Bk.new w1 [.int .i64 (R : Int), .int .i64 (C : Int)] 128 _ rfl)
        have B1 := Lib.hid (hb1.alloc hb1.size (.cells #[.int .i64 (R : Int), .int .i64 (C : Int)] 128))
        clear hb1
        go_wp2_with fail
        refine (HI.out _).mono ?_; rintro e w2 ⟨rfl, hb2⟩
        have K2 := Lib.hid (K1.out.keep hb2)
        have B2 := Lib.hid (B1.out.trans (hb2.mono B1.out.size))
        clear hb2
        have q0 := K2.out.c 0 _ rfl
        have q1 := K2.out.c 1 _ rfl
        go_wp2_with fail
        refine (HP.out _).mono ?_; rintro e w3 ⟨rfl, hb3⟩
        have K3 := Lib.hid (K2.out.keep hb3)
        have B3 := Lib.hid (B2.out.trans (hb3.mono B2.out.size))
        clear hb3 q0 q1
        have q0 := K3.out.c 0 _ rfl
        have q1 := K3.out.c 1 _ rfl
        go_wp2_with fail
        refine (HM.out _).mono ?_; rintro e w4 ⟨rfl, hb4⟩
        have B4 := Lib.hid (B3.out.trans (hb4.mono B3.out.size))
        clear hb4 q0 q1
        go_wp2_with fail
        go_ret2
        exact ⟨rfl, B4.out⟩
      · have hb : blkOk (R : Int) (C : Int) s.data.toList = false := by unfold blkOk; rw [show ((s.data.toList.length : Nat) : Int) = (s.size : Int) from rfl, decide_eq_false (show ¬ (s.size : Int) = (R : Int) * (C : Int) by rw [← Int.natCast_mul]; omega)]; simp
        rw [blk_no hb, hb]
        obtain ⟨M, hM⟩ : ∃ M, M = R * C := ⟨_, rfl⟩
        rw [← hM] at HP
        have hne : ((s.size : Int) == (M : Int)) = false := by rw [hM]; simpa using (show ¬ (s.size : Int) = ((R * C : Nat) : Int) by omega)
        have hne2 : ¬ (s.size : Int) = (M : Int) := by rw [hM]; omega
        have hne3 : ¬ s.size = M := by rw [hM]; exact hz
        clear g0 g1 hb hv hs h1 h2 h3 h4 hz hM
        go_enter Tryd.func46, Tryd.ntmps46
        go_wp2_with fail
        refine HB.out.mono ?_; rintro e w1 ⟨rfl, hb1⟩
        have K1 := Lib.hid (Bk.new w1 [.int .i64 (R : Int), .int .i64 (C : Int)] 128 _ rfl)
        have B1 := Lib.hid (hb1.alloc hb1.size (.cells #[.int .i64 (R : Int), .int .i64 (C : Int)] 128))
        clear hb1
        go_wp2_with fail
        refine (HI.out _).mono ?_; rintro e w2 ⟨rfl, hb2⟩
        have K2 := Lib.hid (K1.out.keep hb2)
        have B2 := Lib.hid (B1.out.trans (hb2.mono B1.out.size))
        clear hb2
        have q0 := K2.out.c 0 _ rfl
        have q1 := K2.out.c 1 _ rfl
        go_wp2_with fail
        refine (HP.out _).mono ?_; rintro e w3 ⟨rfl, hb3⟩
        have B3 := Lib.hid (B2.out.trans (hb3.mono B2.out.size))
        clear hb3 q0 q1
        go_wp2_with fail
        go_ret2
        exact ⟨rfl, B3.out⟩
theorem blockD_impl (r c : Int) (s : ByteArray) (w : World) (hs : s.size ≤ maxLen) (a : Addr) (hv : Ev 0 a w) :
    Calls Tryd.prog 47 #[.int .i64 c, .int .i64 r, .string s] w fun e w' => e = .returned (.tuple #[.string (blkV r c s.data.toList), .bool (blkOk r c s.data.toList)]) ∧ Below w.heap.size w w' := by
  have HB := Lib.hid (blockI_impl r c s w hs a hv)
  generalize blkV r c s.data.toList = y at *
  generalize blkOk r c s.data.toList = z at *
  clear hs hv
  go_enter Tryd.func47, Tryd.ntmps47
  go_wp2_with fail
  refine HB.out.mono ?_; rintro e w1 ⟨rfl, hb1⟩
  have B1 := Lib.hid hb1
  clear hb1
  go_wp2_with fail
  go_ret2
  exact ⟨rfl, B1.out⟩
end Go.Proofs.YtnpigefbdadjfaaDoor
