/- SlideDelay both; the model's l08Later, SlideInterleave, SlideDeinterleave. -/
import Derived.Test.YtkgfmpkpeipddaaDoorSli
import Derived.Test.YtkgfmpkpeipddaaDoorOwn
import Derived.Deep.AppendLies
namespace Go.Proofs.YtkgfmpkpeipddaaDoor
open Go Go.RowKit
set_option linter.unusedVariables false

/-- What SlideDelay answers. -/
def sdV (r c : Int) : Int := if sdB r c then (((r.toNat - 1) * c.toNat * r.toNat : Nat) : Int) else 0
theorem sd_no {r c : Int} (h : sdB r c = false) : sdV r c = 0 := by unfold sdV; rw [h]; rfl
theorem sd_yes {r c : Int} (h : sdB r c = true) : sdV r c = (((r.toNat - 1) * c.toNat * r.toNat : Nat) : Int) := by unfold sdV; rw [h]; rfl
theorem slideDelay_spec (r c : Int) (w : World) :
    Calls Tryd.prog 28 #[.int .i64 r, .int .i64 c] w fun e w' => e = .returned (.tuple #[.int .i64 (sdV r c), .bool (sdB r c)]) ∧ Below w.heap.size w w' := by
  have HB := Lib.hid (fun W => l08Slide_any r c W)
  cases g0 : sdB r c
  · rw [sd_no g0]
    rw [g0] at HB
    clear g0
    go_enter Tryd.func28, Tryd.ntmps28
    go_wp2_with fail
    refine (HB.out _).mono ?_; rintro e w' ⟨rfl, rfl⟩
    go_wp2_with fail
    go_ret2
    exact ⟨rfl, Below.refl _ _⟩
  · rw [sd_yes g0]
    rw [g0] at HB
    obtain ⟨B, S, rfl, rfl, r1, r2, c1, c2, h4, h5⟩ := sd_nat g0
    rw [Int.toNat_natCast, Int.toNat_natCast]
    obtain ⟨i, hi⟩ : ∃ i, i = B - 1 := ⟨_, rfl⟩
    have him : (B : Int) - 1 = (i : Int) := by omega
    have hil : i < B := by omega
    rw [← hi]
    obtain ⟨X, Y, e1, e2, e3, e4⟩ := dl_walk hil r2 c2
    rw [← e3]
    have hB1 : (0 : Int) < (B : Int) := by omega
    have hB2 : (B : Int) ≤ 20 := by omega
    have ei : IntKind.i64.wrap (i : Int) = (i : Int) := IntWalk.i64_in _ (by omega)
    clear hi hil r1 r2 c1 c2 h4 h5 e3 g0
    go_enter Tryd.func28, Tryd.ntmps28
    go_wp2_with fail
    refine (HB.out _).mono ?_; rintro e w' ⟨rfl, rfl⟩
    go_wp2_with fail
    go_ret2
    exact ⟨rfl, Below.refl _ _⟩
theorem slideDelay_impl (r c : Int) (w : World) (a : Addr) (hv : Ev 0 a w) :
    Calls Tryd.prog 29 #[.int .i64 r, .int .i64 c] w fun e w' => e = .returned (.tuple #[.int .i64 (sdV r c), .bool (sdB r c)]) ∧ Below w.heap.size w w' := by
  cases g0 : sdB r c
  · rw [sd_no g0]
    have HB := Lib.hid (sliderOf_no r c a w hv g0)
    clear g0 hv
    go_enter Tryd.func29, Tryd.ntmps29
    go_wp2_with fail
    refine HB.out.mono ?_; rintro e w1 ⟨rfl, hb1⟩
    have B1 := Lib.hid hb1
    clear hb1
    go_wp2_with fail
    go_ret2
    exact ⟨rfl, B1.out.alloc B1.out.size _⟩
  · rw [sd_yes g0]
    have HB := Lib.hid (sliderOf_yes r c w g0)
    obtain ⟨B, S, rfl, rfl, r1, r2, c1, c2, h4, h5⟩ := sd_nat g0
    rw [Int.toNat_natCast, Int.toNat_natCast]
    have HD := Lib.hid (fun W => delay_any B S W r1 r2 c2)
    generalize (B - 1) * S * B = Y at *
    clear g0 hv r1 r2 c1 c2 h4 h5
    go_enter Tryd.func29, Tryd.ntmps29
    go_wp2_with fail
    refine HB.out.mono ?_; rintro e w1 ⟨rfl, hb1⟩
    have K1 := Lib.hid (Bk.new w1 [.int .i64 (B : Int), .int .i64 (S : Int)] 56 _ rfl)
    have B1 := Lib.hid (hb1.alloc hb1.size (.cells #[.int .i64 (B : Int), .int .i64 (S : Int)] 56))
    have q0 := K1.out.c 0 _ rfl
    have q1 := K1.out.c 1 _ rfl
    clear hb1
    go_wp2_with fail
    refine (HD.out _).mono ?_; rintro e w2 ⟨rfl, hb2⟩
    have B2 := Lib.hid (B1.out.trans (hb2.mono B1.out.size))
    clear hb2 q0 q1
    go_wp2_with fail
    go_ret2
    exact ⟨rfl, B2.out⟩
theorem byte_beta (x : UInt8) (X : Int) (h : (x.toNat : Int) = X) (L : List UInt8) : byteVals L ++ [.int .u8 X] = byteVals (L ++ [x]) := by rw [← h, byteVals_snoc]
set_option maxRecDepth 100000 in
set_option maxHeartbeats 2000000 in
theorem later_true (B S : Nat) (s : ByteArray) (w : World) (r1 : 1 ≤ B) (r2 : B ≤ 20) (c2 : S ≤ 20) (hs : s.size ≤ 400) :
    Calls Tryd.prog 51 #[.int .i64 B, .int .i64 S, .string s, .bool true] w fun e w' => e = .returned (.string ⟨(slL B S true s.data.toList).toArray⟩) ∧ Below w.heap.size w w' := by
  obtain ⟨i0, hi, hz0, hz1, hz2⟩ := info_parts Tryd.infoByte
  have HSN := Lib.hid (slT_snoc B S true s.data.toList)
  have HTL := Lib.hid (slT_len B S true s.data.toList)
  have HALL : Hid (slT B S true s.data.toList s.size = slL B S true s.data.toList) := rfl
  have HGD : Hid (∀ i (h : i < s.size), s.data.toList.getD i 0 = s[i]) := by
    show ∀ i (h : i < s.size), _
    intro i h
    have h' : i < s.data.toList.length := h
    rw [List.getD_eq_getElem?_getD, List.getElem?_eq_getElem h']; rfl
  have HML := Lib.hid (fun x => Nat.mod_lt x (show 0 < B by omega))
  have HMD : Hid (∀ x : Nat, (x : Int) % (B : Int) = ((x % B : Nat) : Int)) := fun x => (Int.natCast_emod x B).symm
  have HDW := Lib.hid (fun i (h : i < B) => dl_walk h r2 c2)
  have hB0 : ((B : Int) == 0) = false := by simpa using (show ¬ B = 0 by omega)
  have hB1 : (0 : Int) < (B : Int) := by omega
  have hB2 : (B : Int) ≤ 20 := by omega
  clear r1 r2 c2
  go_enter Tryd.func51, Tryd.ntmps51
  go_wp2_with fail
  go_loopw [9, 10] (fun v i wr => ∃ k : Nat, k ≤ s.size ∧ i = .int .i64 k ∧ wr.ownsRow w.heap.size 5 1 v k (byteVals (slT B S true s.data.toList k)) ∧ Below w.heap.size w wr ∧ w.heap.size ≤ wr.heap.size) (fun _ i _ => s.size - (intOf i).toNat)
  case atStart => exact ⟨0, Nat.zero_le _, rfl, by simpa [slT, byteVals] using World.ownsRow_made w #[] 0 (Nat.le_refl _) (by decide) rfl, (Below.refl _ _).alloc (Nat.le_refl _) _, by simp⟩
  case round =>
    obtain ⟨k, hk, rfl, hown, hb, hB⟩ := hrel
    have HO := Lib.hid hown
    have HBL := Lib.hid hb
    clear hown hb
    by_cases hlt : k < s.size
    · have hk1 : (k : Int) < (s.size : Int) := by omega
      have hk0 : (0 : Int) ≤ (k : Int) := by omega
      obtain ⟨i, hi1⟩ : ∃ i, i = k % B := ⟨_, rfl⟩
      have him := HMD.out k
      have hil := HML.out k
      have hsn := HSN.out k
      have hdl : dlN B S true k = i * S * B := by rw [hi1]; rfl
      rw [← hi1] at him hil
      have hi0 : (0 : Int) ≤ (i : Int) := by omega
      have hi2 : (i : Int) < (B : Int) := by omega
      obtain ⟨X, Y, e1, e2, e3, e4⟩ := HDW.out i (by omega)
      rw [← e3] at hdl
      rw [hdl] at hsn
      have hYb : (Y : Int) ≤ 7600 := by omega
      have hY0 : (0 : Int) ≤ (Y : Int) := by omega
      by_cases hge : Y ≤ k
      · rw [if_pos hge] at hsn
        obtain ⟨m, hm⟩ : ∃ m, m = k - Y := ⟨_, rfl⟩
        have em : (k : Int) - (Y : Int) = (m : Int) := by omega
        have hms : m < s.size := by omega
        have hms1 : (m : Int) < (s.size : Int) := by omega
        have hm0 : (0 : Int) ≤ (m : Int) := by omega
        rw [← hm, HGD.out m hms] at hsn
        obtain ⟨x, hx⟩ : ∃ x, x = s[m] := ⟨_, rfl⟩
        obtain ⟨Z, hZ⟩ : ∃ Z : Int, (x.toNat : Int) = Z := ⟨_, rfl⟩
        have ex : ((s[m]).toNat : Int) = Z := by rw [← hx]; exact hZ
        rw [← hx] at hsn
        have HS := Lib.hid hsn
        have HZ := Lib.hid hZ
        have hl2 := HTL.out k
        clear hsn hZ hx hm hdl e3 hi1 hil hl2
        generalize slT B S true s.data.toList k = L at *
        go_wp2_with (at_builtin; refine wpList_append_lies _ rfl _ _ 32 rfl w.heap.size 5 i0 (.int .u8 0) 1 1 Tryd.underlying32 hi hz0 hz1 hz2 rfl (by decide) _ _ _ rfl (World.ownsRow.alloc HO.out _) ⟨wr.heap.size, 0, none⟩ 1 1 [.int .u8 Z] rfl rfl ?c1 ?c2 (by decide) ?c3 ?c4 ?c5 (wr.heap.size + 1) (by simp) ?_)
        case c1 => exact c1_one _ _ _
        case c2 => intro u hu; simp at hu; subst hu; rfl
        case c3 => unfold maxLen; omega
        case c4 => omega
        case c5 => simp; omega
        intro g cap w2 hown2 hgrow hat hlt3
        have HB2 := Lib.hid (below_app HBL.out HBL.out.size HO.out hgrow)
        have HO2 : Hid (w2.ownsRow w.heap.size 5 1 (.slice (some ⟨g, 0, none⟩) (k + 1) cap) (k + 1) (byteVals (slT B S true s.data.toList (k + 1)))) := by
          show World.ownsRow _ _ _ _ _ _ _
          rw [HS.out, ← byte_beta _ _ HZ.out]; exact hown2
        clear hown2 hgrow hat hlt3
        go_wp2_with fail
        go_roundw
        case rel => exact ⟨k + 1, by omega, by go_num, HO2.out, HB2.out, HB2.out.size⟩
        case measure => simp [intOf]; omega
      · rw [if_neg hge] at hsn
        have hng : ¬ (0 : Int) ≤ (k : Int) - (Y : Int) := by omega
        have hng2 : ¬ (Y : Int) ≤ (k : Int) := by omega
        have HS := Lib.hid hsn
        clear hsn hdl e3 hi1 hil
        generalize slT B S true s.data.toList k = L at *
        go_wp2_with (at_builtin; refine wpList_append_lies _ rfl _ _ 32 rfl w.heap.size 5 i0 (.int .u8 0) 1 1 Tryd.underlying32 hi hz0 hz1 hz2 rfl (by decide) _ _ _ rfl (World.ownsRow.alloc HO.out _) ⟨wr.heap.size, 0, none⟩ 1 1 [.int .u8 48] rfl rfl ?c1 ?c2 (by decide) ?c3 ?c4 ?c5 (wr.heap.size + 1) (by simp) ?_)
        case c2 => first | rfl | (intro u hu; simp at hu; subst hu; rfl)
        case c3 => unfold maxLen; omega
        case c4 => omega
        case c5 => first | omega | (simp; omega)
        intro g cap w2 hown2 hgrow hat hlt3
        have HB2 := Lib.hid (below_app HBL.out HBL.out.size HO.out hgrow)
        have HO2 : Hid (w2.ownsRow w.heap.size 5 1 (.slice (some ⟨g, 0, none⟩) (k + 1) cap) (k + 1) (byteVals (slT B S true s.data.toList (k + 1)))) := by
          show World.ownsRow _ _ _ _ _ _ _
          rw [HS.out, ← byte_beta _ 48 rfl]; exact hown2
        clear hown2 hgrow hat hlt3
        go_wp2_with fail
        go_roundw
        case rel => exact ⟨k + 1, by omega, by go_num, HO2.out, HB2.out, HB2.out.size⟩
        case measure => simp [intOf]; omega
    · obtain rfl : k = s.size := by omega
      have ho2 := HO.out
      rw [HALL.out] at ho2
      have hcv := conv_own ho2
      clear ho2 HO HSN HTL HALL HGD HML HMD HDW
      go_wp2_with fail
      go_ret
      exact ⟨rfl, HBL.out⟩
set_option maxRecDepth 100000 in
set_option maxHeartbeats 2000000 in
theorem later_false (B S : Nat) (s : ByteArray) (w : World) (r1 : 1 ≤ B) (r2 : B ≤ 20) (c2 : S ≤ 20) (hs : s.size ≤ 400) :
    Calls Tryd.prog 51 #[.int .i64 B, .int .i64 S, .string s, .bool false] w fun e w' => e = .returned (.string ⟨(slL B S false s.data.toList).toArray⟩) ∧ Below w.heap.size w w' := by
  obtain ⟨i0, hi, hz0, hz1, hz2⟩ := info_parts Tryd.infoByte
  have HSN := Lib.hid (slT_snoc B S false s.data.toList)
  have HTL := Lib.hid (slT_len B S false s.data.toList)
  have HALL : Hid (slT B S false s.data.toList s.size = slL B S false s.data.toList) := rfl
  have HGD : Hid (∀ i (h : i < s.size), s.data.toList.getD i 0 = s[i]) := by
    show ∀ i (h : i < s.size), _
    intro i h
    have h' : i < s.data.toList.length := h
    rw [List.getD_eq_getElem?_getD, List.getElem?_eq_getElem h']; rfl
  have HML := Lib.hid (fun x => Nat.mod_lt x (show 0 < B by omega))
  have HMD : Hid (∀ x : Nat, (x : Int) % (B : Int) = ((x % B : Nat) : Int)) := fun x => (Int.natCast_emod x B).symm
  have HDW := Lib.hid (fun i (h : i < B) => dl_walk h r2 c2)
  have hB0 : ((B : Int) == 0) = false := by simpa using (show ¬ B = 0 by omega)
  have hB1 : (0 : Int) < (B : Int) := by omega
  have hB2 : (B : Int) ≤ 20 := by omega
  clear r1 r2 c2
  go_enter Tryd.func51, Tryd.ntmps51
  go_wp2_with fail
  go_loopw [9, 10] (fun v i wr => ∃ k : Nat, k ≤ s.size ∧ i = .int .i64 k ∧ wr.ownsRow w.heap.size 5 1 v k (byteVals (slT B S false s.data.toList k)) ∧ Below w.heap.size w wr ∧ w.heap.size ≤ wr.heap.size) (fun _ i _ => s.size - (intOf i).toNat)
  case atStart => exact ⟨0, Nat.zero_le _, rfl, by simpa [slT, byteVals] using World.ownsRow_made w #[] 0 (Nat.le_refl _) (by decide) rfl, (Below.refl _ _).alloc (Nat.le_refl _) _, by simp⟩
  case round =>
    obtain ⟨k, hk, rfl, hown, hb, hB⟩ := hrel
    have HO := Lib.hid hown
    have HBL := Lib.hid hb
    clear hown hb
    by_cases hlt : k < s.size
    · have hk1 : (k : Int) < (s.size : Int) := by omega
      have hk0 : (0 : Int) ≤ (k : Int) := by omega
      obtain ⟨i, hi1⟩ : ∃ i, i = k % B := ⟨_, rfl⟩
      have him := HMD.out k
      have hil := HML.out k
      have hsn := HSN.out k
      have hdl : dlN B S false k = (B - 1 - i) * S * B := by rw [hi1]; rfl
      rw [← hi1] at him hil
      have hi0 : (0 : Int) ≤ (i : Int) := by omega
      have hi2 : (i : Int) < (B : Int) := by omega
      obtain ⟨q, hq⟩ : ∃ q, q = B - 1 - i := ⟨_, rfl⟩
      have eq : (B : Int) - 1 - (i : Int) = (q : Int) := by omega
      rw [← hq] at hdl
      have hq0 : (0 : Int) ≤ (q : Int) := by omega
      have hq1 : (q : Int) < 20 := by omega
      have eqw : IntKind.i64.wrap (q : Int) = (q : Int) := IntWalk.i64_in _ (by omega)
      obtain ⟨X, Y, e1, e2, e3, e4⟩ := HDW.out q (by omega)
      rw [← e3] at hdl
      rw [hdl] at hsn
      have hYb : (Y : Int) ≤ 7600 := by omega
      have hY0 : (0 : Int) ≤ (Y : Int) := by omega
      by_cases hge : Y ≤ k
      · rw [if_pos hge] at hsn
        obtain ⟨m, hm⟩ : ∃ m, m = k - Y := ⟨_, rfl⟩
        have em : (k : Int) - (Y : Int) = (m : Int) := by omega
        have hms : m < s.size := by omega
        have hms1 : (m : Int) < (s.size : Int) := by omega
        have hm0 : (0 : Int) ≤ (m : Int) := by omega
        rw [← hm, HGD.out m hms] at hsn
        obtain ⟨x, hx⟩ : ∃ x, x = s[m] := ⟨_, rfl⟩
        obtain ⟨Z, hZ⟩ : ∃ Z : Int, (x.toNat : Int) = Z := ⟨_, rfl⟩
        have ex : ((s[m]).toNat : Int) = Z := by rw [← hx]; exact hZ
        rw [← hx] at hsn
        have HS := Lib.hid hsn
        have HZ := Lib.hid hZ
        have hl2 := HTL.out k
        clear hsn hZ hx hm hdl e3 hi1 hil hl2 hq
        generalize slT B S false s.data.toList k = L at *
        go_wp2_with (at_builtin; refine wpList_append_lies _ rfl _ _ 32 rfl w.heap.size 5 i0 (.int .u8 0) 1 1 Tryd.underlying32 hi hz0 hz1 hz2 rfl (by decide) _ _ _ rfl (World.ownsRow.alloc HO.out _) ⟨wr.heap.size, 0, none⟩ 1 1 [.int .u8 Z] rfl rfl ?c1 ?c2 (by decide) ?c3 ?c4 ?c5 (wr.heap.size + 1) (by simp) ?_)
        case c1 => exact c1_one _ _ _
        case c2 => intro u hu; simp at hu; subst hu; rfl
        case c3 => unfold maxLen; omega
        case c4 => omega
        case c5 => simp; omega
        intro g cap w2 hown2 hgrow hat hlt3
        have HB2 := Lib.hid (below_app HBL.out HBL.out.size HO.out hgrow)
        have HO2 : Hid (w2.ownsRow w.heap.size 5 1 (.slice (some ⟨g, 0, none⟩) (k + 1) cap) (k + 1) (byteVals (slT B S false s.data.toList (k + 1)))) := by
          show World.ownsRow _ _ _ _ _ _ _
          rw [HS.out, ← byte_beta _ _ HZ.out]; exact hown2
        clear hown2 hgrow hat hlt3
        go_wp2_with fail
        go_roundw
        case rel => exact ⟨k + 1, by omega, by go_num, HO2.out, HB2.out, HB2.out.size⟩
        case measure => simp [intOf]; omega
      · rw [if_neg hge] at hsn
        have hng : ¬ (0 : Int) ≤ (k : Int) - (Y : Int) := by omega
        have hng2 : ¬ (Y : Int) ≤ (k : Int) := by omega
        have HS := Lib.hid hsn
        clear hsn hdl e3 hi1 hil hq
        generalize slT B S false s.data.toList k = L at *
        go_wp2_with (at_builtin; refine wpList_append_lies _ rfl _ _ 32 rfl w.heap.size 5 i0 (.int .u8 0) 1 1 Tryd.underlying32 hi hz0 hz1 hz2 rfl (by decide) _ _ _ rfl (World.ownsRow.alloc HO.out _) ⟨wr.heap.size, 0, none⟩ 1 1 [.int .u8 48] rfl rfl ?c1 ?c2 (by decide) ?c3 ?c4 ?c5 (wr.heap.size + 1) (by simp) ?_)
        case c2 => first | rfl | (intro u hu; simp at hu; subst hu; rfl)
        case c3 => unfold maxLen; omega
        case c4 => omega
        case c5 => first | omega | (simp; omega)
        intro g cap w2 hown2 hgrow hat hlt3
        have HB2 := Lib.hid (below_app HBL.out HBL.out.size HO.out hgrow)
        have HO2 : Hid (w2.ownsRow w.heap.size 5 1 (.slice (some ⟨g, 0, none⟩) (k + 1) cap) (k + 1) (byteVals (slT B S false s.data.toList (k + 1)))) := by
          show World.ownsRow _ _ _ _ _ _ _
          rw [HS.out, ← byte_beta _ 48 rfl]; exact hown2
        clear hown2 hgrow hat hlt3
        go_wp2_with fail
        go_roundw
        case rel => exact ⟨k + 1, by omega, by go_num, HO2.out, HB2.out, HB2.out.size⟩
        case measure => simp [intOf]; omega
    · obtain rfl : k = s.size := by omega
      have ho2 := HO.out
      rw [HALL.out] at ho2
      have hcv := conv_own ho2
      clear ho2 HO HSN HTL HALL HGD HML HMD HDW
      go_wp2_with fail
      go_ret
      exact ⟨rfl, HBL.out⟩
/-- What SlideInterleave and SlideDeinterleave answer. -/
def slOk (r c : Int) (l : List UInt8) : Bool := sdB r c && isB l
def slV (r c : Int) (up : Bool) (l : List UInt8) : ByteArray := if slOk r c l then ⟨(slL r.toNat c.toNat up l).toArray⟩ else ⟨#[]⟩
theorem sl_no {r c : Int} {up : Bool} {l : List UInt8} (h : slOk r c l = false) : slV r c up l = ⟨#[]⟩ := by unfold slV; rw [h]; rfl
theorem sl_yes {r c : Int} {up : Bool} {l : List UInt8} (h : slOk r c l = true) : slV r c up l = ⟨(slL r.toNat c.toNat up l).toArray⟩ := by unfold slV; rw [h]; rfl
set_option maxHeartbeats 400000 in
theorem slideI_spec (r c : Int) (s : ByteArray) (w : World) (hs : s.size ≤ maxLen) :
    Calls Tryd.prog 24 #[.int .i64 r, .int .i64 c, .string s] w fun e w' => e = .returned (.tuple #[.string (slV r c true s.data.toList), .bool (slOk r c s.data.toList)]) ∧ Below w.heap.size w w' := by
  have HC := Lib.hid (fun W => l08Slide_any r c W)
  have HT := Lib.hid (fun W => l01Bits_any s W hs)
  cases g0 : sdB r c
  · have hb : slOk r c s.data.toList = false := by unfold slOk; rw [g0]; rfl
    rw [sl_no hb, hb]
    rw [g0] at HC
    clear g0 hb hs
    go_enter Tryd.func24, Tryd.ntmps24
    go_wp2_with fail
    refine (HC.out _).mono ?_; rintro e w' ⟨rfl, rfl⟩
    go_wp2_with fail
    go_ret2
    exact ⟨rfl, Below.refl _ _⟩
  · rw [g0] at HC
    cases g1 : isB s.data.toList
    · have hb : slOk r c s.data.toList = false := by unfold slOk; rw [g0, g1]; rfl
      rw [sl_no hb, hb]
      rw [g1] at HT
      clear g0 g1 hb hs
      go_enter Tryd.func24, Tryd.ntmps24
      go_wp2_with fail
      refine (HC.out _).mono ?_; rintro e w' ⟨rfl, rfl⟩
      go_wp2_with fail
      refine (HT.out _).mono ?_; rintro e w' ⟨rfl, rfl⟩
      go_wp2_with fail
      go_ret2
      exact ⟨rfl, Below.refl _ _⟩
    · have hb : slOk r c s.data.toList = true := by unfold slOk; rw [g0, g1]; rfl
      rw [sl_yes hb, hb]
      rw [g1] at HT
      obtain ⟨B, S, rfl, rfl, r1, r2, c1, c2, h4, h5⟩ := sd_nat g0
      rw [Int.toNat_natCast, Int.toNat_natCast]
      have h400 : s.size ≤ 400 := by
        unfold isB at g1
        exact of_decide_eq_true (Bool.and_eq_true_iff.1 g1).1
      have HS := Lib.hid (fun W => later_true B S s W r1 r2 c2 h400)
      clear g0 g1 hb hs r1 r2 c1 c2 h4 h5
      go_enter Tryd.func24, Tryd.ntmps24
      go_wp2_with fail
      refine (HC.out _).mono ?_; rintro e w' ⟨rfl, rfl⟩
      go_wp2_with fail
      refine (HT.out _).mono ?_; rintro e w' ⟨rfl, rfl⟩
      go_wp2_with fail
      refine (HS.out _).mono ?_; rintro e w1 ⟨rfl, hb1⟩
      have B1 := Lib.hid hb1
      clear hb1
      go_wp2_with fail
      go_ret2
      exact ⟨rfl, B1.out⟩
set_option maxHeartbeats 400000 in
theorem slideD_spec (r c : Int) (s : ByteArray) (w : World) (hs : s.size ≤ maxLen) :
    Calls Tryd.prog 26 #[.int .i64 r, .int .i64 c, .string s] w fun e w' => e = .returned (.tuple #[.string (slV r c false s.data.toList), .bool (slOk r c s.data.toList)]) ∧ Below w.heap.size w w' := by
  have HC := Lib.hid (fun W => l08Slide_any r c W)
  have HT := Lib.hid (fun W => l01Bits_any s W hs)
  cases g0 : sdB r c
  · have hb : slOk r c s.data.toList = false := by unfold slOk; rw [g0]; rfl
    rw [sl_no hb, hb]
    rw [g0] at HC
    clear g0 hb hs
    go_enter Tryd.func26, Tryd.ntmps26
    go_wp2_with fail
    refine (HC.out _).mono ?_; rintro e w' ⟨rfl, rfl⟩
    go_wp2_with fail
    go_ret2
    exact ⟨rfl, Below.refl _ _⟩
  · rw [g0] at HC
    cases g1 : isB s.data.toList
    · have hb : slOk r c s.data.toList = false := by unfold slOk; rw [g0, g1]; rfl
      rw [sl_no hb, hb]
      rw [g1] at HT
      clear g0 g1 hb hs
      go_enter Tryd.func26, Tryd.ntmps26
      go_wp2_with fail
      refine (HC.out _).mono ?_; rintro e w' ⟨rfl, rfl⟩
      go_wp2_with fail
      refine (HT.out _).mono ?_; rintro e w' ⟨rfl, rfl⟩
      go_wp2_with fail
      go_ret2
      exact ⟨rfl, Below.refl _ _⟩
    · have hb : slOk r c s.data.toList = true := by unfold slOk; rw [g0, g1]; rfl
      rw [sl_yes hb, hb]
      rw [g1] at HT
      obtain ⟨B, S, rfl, rfl, r1, r2, c1, c2, h4, h5⟩ := sd_nat g0
      rw [Int.toNat_natCast, Int.toNat_natCast]
      have h400 : s.size ≤ 400 := by
        unfold isB at g1
        exact of_decide_eq_true (Bool.and_eq_true_iff.1 g1).1
      have HS := Lib.hid (fun W => later_false B S s W r1 r2 c2 h400)
      clear g0 g1 hb hs r1 r2 c1 c2 h4 h5
      go_enter Tryd.func26, Tryd.ntmps26
      go_wp2_with fail
      refine (HC.out _).mono ?_; rintro e w' ⟨rfl, rfl⟩
      go_wp2_with fail
      refine (HT.out _).mono ?_; rintro e w' ⟨rfl, rfl⟩
      go_wp2_with fail
      refine (HS.out _).mono ?_; rintro e w1 ⟨rfl, hb1⟩
      have B1 := Lib.hid hb1
      clear hb1
      go_wp2_with fail
      go_ret2
      exact ⟨rfl, B1.out⟩
end Go.Proofs.YtkgfmpkpeipddaaDoor
