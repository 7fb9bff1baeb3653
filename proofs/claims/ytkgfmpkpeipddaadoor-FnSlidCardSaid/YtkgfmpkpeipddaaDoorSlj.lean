/- The program's bitAt, laterBits, SlideInterleave, SlideDeinterleave. -/
import Derived.Test.YtkgfmpkpeipddaaDoorSlm
import Derived.Test.YtkgfmpkpeipddaaDoorBlr
import Derived.Test.YtkgfmpkpeipddaaDoorIsE
import Derived.Test.YtkgfmpkpeipddaaDoorShelfT
namespace Go.Proofs.YtkgfmpkpeipddaaDoor
open Go Go.RowKit
set_option linter.unusedVariables false

theorem bitAt_yes (s : ByteArray) (i : Nat) (w : World) (h : i < s.size) (hs : s.size ≤ 400) :
    Calls Tryd.prog 68 #[.string s, .int .i64 i] w fun e w' => e = .returned (.tuple #[.int .u8 ((s[i]).toNat : Int), .nilIface]) ∧ w = w' := by
  have h0 : (0 : Int) ≤ (i : Int) := by omega
  have h1 : (i : Int) ≤ (s.size : Int) - 1 := by omega
  have h2 : (i : Int) < (s.size : Int) := by omega
  go_enter Tryd.func68, Tryd.ntmps68
  go_wp2_with fail
  refine (btw_yes _ _ _ _ h0 h1).mono ?_; rintro e w' ⟨rfl, rfl⟩
  go_wp2_with fail
  go_ret2
  exact ⟨rfl, rfl⟩
theorem bitAt_no (s : ByteArray) (x : Int) (a : Addr) (w : World) (h : x < 0) (hs : s.size ≤ 400) (hv : Ev 1 a w) :
    Calls Tryd.prog 68 #[.string s, .int .i64 x] w fun e w' => e = .returned (.tuple #[.int .u8 0, .iface 98 (.pointer (some a))]) ∧ Below w.heap.size w w' := by
  have hc := hv.cell
  have hn : ¬ ((0 : Int) ≤ x ∧ x ≤ (s.size : Int) - 1) := by omega
  have HN := Lib.hid hn
  clear hv hn
  go_enter Tryd.func68, Tryd.ntmps68
  go_wp2_with fail
  refine (btw_no _ _ _ _ HN.out).mono ?_; rintro e w' ⟨rfl, rfl⟩
  go_wp2_with fail
  go_region
  go_wp2_with fail
  go_ret2
  exact ⟨rfl, (Below.refl _ _).drew⟩
theorem Ev.chg {g lo b : Nat} {a : Addr} {w w' : World} (h : Ev g a w) (hc : Chg lo b w w') (hl : g < lo) (hn : g ≠ b) : Ev g a w' :=
  ⟨(World.cell?_of_block (w := w) (hc.block g hl hn)).trans h.cell⟩
theorem slT_at (br st : Nat) (up : Bool) (l : List UInt8) (n : Nat) : slT br st up l (n + 1) = slT br st up l n ++ [if dlN br st up n ≤ n then l.getD (n - dlN br st up n) 0 else 48] := slT_snoc br st up l n
set_option maxRecDepth 100000 in
set_option maxHeartbeats 2000000 in
theorem laterB_true (B S : Nat) (s : ByteArray) (w : World) (r1 : 1 ≤ B) (r2 : B ≤ 20) (c2 : S ≤ 20) (hs : s.size ≤ 400) (a : Addr) (hv : Ev 1 a w) :
    Calls Tryd.prog 53 #[.string s, .func (.func 54) #[.agg #[.int .i64 B, .int .i64 S]] #[]] w fun e w' => e = .returned (.string ⟨(slL B S true s.data.toList).toArray⟩) ∧ Below w.heap.size w w' := by
  have HSN := Lib.hid (slT_at B S true s.data.toList)
  have HTL := Lib.hid (slT_len B S true s.data.toList)
  have HALL : Hid (slT B S true s.data.toList s.size = slL B S true s.data.toList) := rfl
  have HGD : Hid (∀ i (h : i < s.size), s.data.toList.getD i 0 = s[i]) := by
    show ∀ i (h : i < s.size), _
    intro i h
    have h' : i < s.data.toList.length := h
    rw [List.getD_eq_getElem?_getD, List.getElem?_eq_getElem h']; rfl
  have HD := Lib.hid (fun j W => delayOf_any B S j W r1 r2 c2)
  have HDB : Hid (∀ j, dlN B S true j ≤ 7600) := by
    show ∀ j, _
    intro j
    have := Nat.mod_lt j (show 0 < B by omega)
    exact dl_bd (by show j % B < B; exact this) r2 c2
  have hgl := hv.lt
  have HV0 := Lib.hid (hv.keep ((Below.refl _ _).alloc (Nat.le_refl _) (.cells #[.pointer none, .slice none 0 0] 68)))
  have HB0 : Hid (BlR (w.heap.size + 1) w.heap.size (Lib.byteCells []) (w.alloc (.cells #[.pointer none, .slice none 0 0] 68))) :=
    BlR.start (Blk.new w [.pointer none, .slice none 0 0] 68 _ rfl) (by omega)
  have HW0 : Hid (Below w.heap.size w (w.alloc (.cells #[.pointer none, .slice none 0 0] 68))) := (Below.refl _ _).alloc (Nat.le_refl _) _
  obtain ⟨bb, hbb⟩ : ∃ bb, bb = w.heap.size := ⟨_, rfl⟩
  rw [← hbb] at HB0 hgl
  have HBB : Hid (w.heap.size = bb) := hbb.symm
  have hS0 : bb + 1 ≤ (w.alloc (.cells #[.pointer none, .slice none 0 0] 68)).heap.size := by simp [hbb]
  clear hv r1 r2 c2
  go_enter Tryd.func53, Tryd.ntmps53
  go_wp2_with fail
  obtain ⟨w0, hw0⟩ : ∃ w0, w0 = w.alloc (.cells #[.pointer none, .slice none 0 0] 68) := ⟨_, rfl⟩
  rw [← hw0] at HB0 HV0 HW0 hS0 ⊢
  rw [← hbb]
  clear hw0 hbb
  go_loopw [6, 11] (fun _ i wr => ∃ k : Nat, k ≤ s.size ∧ i = .int .i64 k ∧ BlR (bb + 1) bb (Lib.byteCells (slT B S true s.data.toList k)) wr ∧ Below w.heap.size w wr ∧ Ev 1 a wr ∧ bb + 1 ≤ wr.heap.size) (fun _ i _ => s.size - (intOf i).toNat)
  case atStart => exact ⟨0, Nat.zero_le _, rfl, HB0.out, HW0.out, HV0.out, hS0⟩
  case round =>
    obtain ⟨k, hk, rfl, hbl, hb, hev, hsz⟩ := hrel
    have HBL := Lib.hid hbl
    have HW := Lib.hid hb
    have HE := Lib.hid hev
    clear hbl hb hev HB0 HW0 HV0 hS0
    by_cases hlt : k < s.size
    · have hk1 : (k : Int) < (s.size : Int) := by omega
      have hk0 : (0 : Int) ≤ (k : Int) := by omega
      have hsn := HSN.out k
      have hdb := HDB.out k
      have hl2 := HTL.out k
      have HDK := Lib.hid (fun W => HD.out k W)
      generalize slT B S true s.data.toList k = L at *
      generalize dlN B S true k = Y at *
      have hYb : (Y : Int) ≤ 7600 := by omega
      have hY0 : (0 : Int) ≤ (Y : Int) := by omega
      have hLb : (Lib.byteCells L).length + 1 ≤ 140737488355328 := by simp [Lib.byteCells]; omega
      have HLB := Lib.hid hLb
      by_cases hge : Y ≤ k
      · rw [if_pos hge] at hsn
        obtain ⟨m, hm⟩ : ∃ m, m = k - Y := ⟨_, rfl⟩
        have em : (k : Int) - (Y : Int) = (m : Int) := by omega
        have hms : m < s.size := by omega
        have hmb : (m : Int) ≤ 400 := by omega
        have hm0 : (0 : Int) ≤ (m : Int) := by omega
        rw [← hm, HGD.out m hms] at hsn
        have HBA := Lib.hid (fun W => bitAt_yes s m W hms hs)
        obtain ⟨x, hx⟩ : ∃ x, x = s[m] := ⟨_, rfl⟩
        rw [← hx] at hsn HBA
        have HS : Hid (Lib.byteCells (slT B S true s.data.toList (k + 1)) = Lib.byteCells L ++ [.int .u8 (x.toNat : Int)]) := by show _ = _; rw [hsn]; simp [Lib.byteCells]
        obtain ⟨X, hX⟩ : ∃ X : Int, X = (x.toNat : Int) := ⟨_, rfl⟩
        rw [← hX] at HS HBA
        clear hsn hm hx hX hdb hl2 hLb
        go_wp2_with fail
        refine (HDK.out _).mono ?_; rintro e w1 ⟨rfl, hb1⟩
        have HBL1 := Lib.hid (HBL.out.keep hb1)
        have HW1 := Lib.hid (HW.out.trans (hb1.mono HW.out.size))
        have HE1 := Lib.hid (HE.out.keep hb1)
        have hsz1 : bb + 1 ≤ w1.heap.size := Nat.le_trans hsz hb1.size
        clear hb1
        go_wp2_with fail
        refine (HBA.out _).mono ?_; rintro e w' ⟨rfl, rfl⟩
        have hce := HE1.out.cell
        go_wp2_with fail
        refine (is_nil a _).mono ?_; rintro e w' ⟨rfl, rfl⟩
        clear hce
        go_wp2_with fail
        refine (blr_b _ _ _ X _ HBL1.out HLB.out hsz1).mono ?_; rintro e w3 ⟨rfl, hbl3, hc3⟩
        rw [← HS.out] at hbl3
        have HBL3 := Lib.hid hbl3
        have HW3 := Lib.hid (HW1.out.trans (hc3.below (by have := HBB.out; omega) (by have := HBB.out; omega)))
        have HE3 := Lib.hid (HE1.out.chg hc3 (by omega) (by omega))
        have hsz3 : bb + 1 ≤ w3.heap.size := Nat.le_trans hsz1 hc3.size
        clear hbl3 hc3
        go_wp2_with fail
        go_roundw
        case rel => exact ⟨k + 1, by omega, by go_num, HBL3.out, HW3.out, HE3.out, hsz3⟩
        case measure => simp [intOf]; omega
      · rw [if_neg hge] at hsn
        have hng : (k : Int) - (Y : Int) < 0 := by omega
        have HBA := Lib.hid (fun W hv => bitAt_no s ((k : Int) - (Y : Int)) a W hng hs hv)
        have HS : Hid (Lib.byteCells (slT B S true s.data.toList (k + 1)) = Lib.byteCells L ++ [.int .u8 48]) := by show _ = _; rw [hsn]; simp [Lib.byteCells]
        clear hsn hdb hl2 hLb
        go_wp2_with fail
        refine (HDK.out _).mono ?_; rintro e w1 ⟨rfl, hb1⟩
        have HBL1 := Lib.hid (HBL.out.keep hb1)
        have HW1 := Lib.hid (HW.out.trans (hb1.mono HW.out.size))
        have HE1 := Lib.hid (HE.out.keep hb1)
        have hsz1 : bb + 1 ≤ w1.heap.size := Nat.le_trans hsz hb1.size
        clear hb1
        go_wp2_with fail
        refine (HBA.out _ HE1.out).mono ?_; rintro e w2 ⟨rfl, hb2⟩
        have HBL2 := Lib.hid (HBL1.out.keep hb2)
        have HW2 := Lib.hid (HW1.out.trans (hb2.mono HW1.out.size))
        have HE2 := Lib.hid (HE1.out.keep hb2)
        have hsz2 : bb + 1 ≤ w2.heap.size := Nat.le_trans hsz1 hb2.size
        clear hb2
        have hce := HE2.out.cell
        go_wp2_with fail
        refine (is_same a _).mono ?_; rintro e w' ⟨rfl, rfl⟩
        clear hce
        go_wp2_with fail
        refine (blr_b _ _ _ 48 _ HBL2.out HLB.out hsz2).mono ?_; rintro e w3 ⟨rfl, hbl3, hc3⟩
        rw [← HS.out] at hbl3
        have HBL3 := Lib.hid hbl3
        have HW3 := Lib.hid (HW2.out.trans (hc3.below (by have := HBB.out; omega) (by have := HBB.out; omega)))
        have HE3 := Lib.hid (HE2.out.chg hc3 (by omega) (by omega))
        have hsz3 : bb + 1 ≤ w3.heap.size := Nat.le_trans hsz2 hc3.size
        clear hbl3 hc3
        go_wp2_with fail
        go_roundw
        case rel => exact ⟨k + 1, by omega, by go_num, HBL3.out, HW3.out, HE3.out, hsz3⟩
        case measure => simp [intOf]; omega
    · obtain rfl : k = s.size := by omega
      rw [HALL.out] at HBL
      clear HSN HTL HALL HGD HD HDB
      go_wp2_with fail
      refine (Go.Proofs.Tryd.Builder_String_any _ _ _ _ HBL.out.isB (by omega)).mono ?_; rintro e w6 ⟨rfl, hb6⟩
      have B6 := Lib.hid (HW.out.trans (hb6.mono (by have := HBB.out; omega)))
      clear hb6
      go_wp2_with fail
      go_ret
      exact ⟨rfl, B6.out⟩
set_option maxRecDepth 100000 in
set_option maxHeartbeats 2000000 in
theorem laterB_false (B S : Nat) (s : ByteArray) (w : World) (r1 : 1 ≤ B) (r2 : B ≤ 20) (c2 : S ≤ 20) (hs : s.size ≤ 400) (a : Addr) (hv : Ev 1 a w) :
    Calls Tryd.prog 53 #[.string s, .func (.func 55) #[.agg #[.int .i64 B, .int .i64 S]] #[]] w fun e w' => e = .returned (.string ⟨(slL B S false s.data.toList).toArray⟩) ∧ Below w.heap.size w w' := by
  have HSN := Lib.hid (slT_at B S false s.data.toList)
  have HTL := Lib.hid (slT_len B S false s.data.toList)
  have HALL : Hid (slT B S false s.data.toList s.size = slL B S false s.data.toList) := rfl
  have HGD : Hid (∀ i (h : i < s.size), s.data.toList.getD i 0 = s[i]) := by
    show ∀ i (h : i < s.size), _
    intro i h
    have h' : i < s.data.toList.length := h
    rw [List.getD_eq_getElem?_getD, List.getElem?_eq_getElem h']; rfl
  have HD := Lib.hid (fun j W => delayLeft_any B S j W r1 r2 c2)
  have HDB : Hid (∀ j, dlN B S false j ≤ 7600) := by
    show ∀ j, _
    intro j
    have := Nat.mod_lt j (show 0 < B by omega)
    exact dl_bd (by show B - 1 - j % B < B; omega) r2 c2
  have hgl := hv.lt
  have HV0 := Lib.hid (hv.keep ((Below.refl _ _).alloc (Nat.le_refl _) (.cells #[.pointer none, .slice none 0 0] 68)))
  have HB0 : Hid (BlR (w.heap.size + 1) w.heap.size (Lib.byteCells []) (w.alloc (.cells #[.pointer none, .slice none 0 0] 68))) :=
    BlR.start (Blk.new w [.pointer none, .slice none 0 0] 68 _ rfl) (by omega)
  have HW0 : Hid (Below w.heap.size w (w.alloc (.cells #[.pointer none, .slice none 0 0] 68))) := (Below.refl _ _).alloc (Nat.le_refl _) _
  obtain ⟨bb, hbb⟩ : ∃ bb, bb = w.heap.size := ⟨_, rfl⟩
  rw [← hbb] at HB0 hgl
  have HBB : Hid (w.heap.size = bb) := hbb.symm
  have hS0 : bb + 1 ≤ (w.alloc (.cells #[.pointer none, .slice none 0 0] 68)).heap.size := by simp [hbb]
  clear hv r1 r2 c2
  go_enter Tryd.func53, Tryd.ntmps53
  go_wp2_with fail
  obtain ⟨w0, hw0⟩ : ∃ w0, w0 = w.alloc (.cells #[.pointer none, .slice none 0 0] 68) := ⟨_, rfl⟩
  rw [← hw0] at HB0 HV0 HW0 hS0 ⊢
  rw [← hbb]
  clear hw0 hbb
  go_loopw [6, 11] (fun _ i wr => ∃ k : Nat, k ≤ s.size ∧ i = .int .i64 k ∧ BlR (bb + 1) bb (Lib.byteCells (slT B S false s.data.toList k)) wr ∧ Below w.heap.size w wr ∧ Ev 1 a wr ∧ bb + 1 ≤ wr.heap.size) (fun _ i _ => s.size - (intOf i).toNat)
  case atStart => exact ⟨0, Nat.zero_le _, rfl, HB0.out, HW0.out, HV0.out, hS0⟩
  case round =>
    obtain ⟨k, hk, rfl, hbl, hb, hev, hsz⟩ := hrel
    have HBL := Lib.hid hbl
    have HW := Lib.hid hb
    have HE := Lib.hid hev
    clear hbl hb hev HB0 HW0 HV0 hS0
    by_cases hlt : k < s.size
    · have hk1 : (k : Int) < (s.size : Int) := by omega
      have hk0 : (0 : Int) ≤ (k : Int) := by omega
      have hsn := HSN.out k
      have hdb := HDB.out k
      have hl2 := HTL.out k
      have HDK := Lib.hid (fun W => HD.out k W)
      generalize slT B S false s.data.toList k = L at *
      generalize dlN B S false k = Y at *
      have hYb : (Y : Int) ≤ 7600 := by omega
      have hY0 : (0 : Int) ≤ (Y : Int) := by omega
      have hLb : (Lib.byteCells L).length + 1 ≤ 140737488355328 := by simp [Lib.byteCells]; omega
      have HLB := Lib.hid hLb
      by_cases hge : Y ≤ k
      · rw [if_pos hge] at hsn
        obtain ⟨m, hm⟩ : ∃ m, m = k - Y := ⟨_, rfl⟩
        have em : (k : Int) - (Y : Int) = (m : Int) := by omega
        have hms : m < s.size := by omega
        have hmb : (m : Int) ≤ 400 := by omega
        have hm0 : (0 : Int) ≤ (m : Int) := by omega
        rw [← hm, HGD.out m hms] at hsn
        have HBA := Lib.hid (fun W => bitAt_yes s m W hms hs)
        obtain ⟨x, hx⟩ : ∃ x, x = s[m] := ⟨_, rfl⟩
        rw [← hx] at hsn HBA
        have HS : Hid (Lib.byteCells (slT B S false s.data.toList (k + 1)) = Lib.byteCells L ++ [.int .u8 (x.toNat : Int)]) := by show _ = _; rw [hsn]; simp [Lib.byteCells]
        obtain ⟨X, hX⟩ : ∃ X : Int, X = (x.toNat : Int) := ⟨_, rfl⟩
        rw [← hX] at HS HBA
        clear hsn hm hx hX hdb hl2 hLb
        go_wp2_with fail
        refine (HDK.out _).mono ?_; rintro e w1 ⟨rfl, hb1⟩
        have HBL1 := Lib.hid (HBL.out.keep hb1)
        have HW1 := Lib.hid (HW.out.trans (hb1.mono HW.out.size))
        have HE1 := Lib.hid (HE.out.keep hb1)
        have hsz1 : bb + 1 ≤ w1.heap.size := Nat.le_trans hsz hb1.size
        clear hb1
        go_wp2_with fail
        refine (HBA.out _).mono ?_; rintro e w' ⟨rfl, rfl⟩
        have hce := HE1.out.cell
        go_wp2_with fail
        refine (is_nil a _).mono ?_; rintro e w' ⟨rfl, rfl⟩
        clear hce
        go_wp2_with fail
        refine (blr_b _ _ _ X _ HBL1.out HLB.out hsz1).mono ?_; rintro e w3 ⟨rfl, hbl3, hc3⟩
        rw [← HS.out] at hbl3
        have HBL3 := Lib.hid hbl3
        have HW3 := Lib.hid (HW1.out.trans (hc3.below (by have := HBB.out; omega) (by have := HBB.out; omega)))
        have HE3 := Lib.hid (HE1.out.chg hc3 (by omega) (by omega))
        have hsz3 : bb + 1 ≤ w3.heap.size := Nat.le_trans hsz1 hc3.size
        clear hbl3 hc3
        go_wp2_with fail
        go_roundw
        case rel => exact ⟨k + 1, by omega, by go_num, HBL3.out, HW3.out, HE3.out, hsz3⟩
        case measure => simp [intOf]; omega
      · rw [if_neg hge] at hsn
        have hng : (k : Int) - (Y : Int) < 0 := by omega
        have HBA := Lib.hid (fun W hv => bitAt_no s ((k : Int) - (Y : Int)) a W hng hs hv)
        have HS : Hid (Lib.byteCells (slT B S false s.data.toList (k + 1)) = Lib.byteCells L ++ [.int .u8 48]) := by show _ = _; rw [hsn]; simp [Lib.byteCells]
        clear hsn hdb hl2 hLb
        go_wp2_with fail
        refine (HDK.out _).mono ?_; rintro e w1 ⟨rfl, hb1⟩
        have HBL1 := Lib.hid (HBL.out.keep hb1)
        have HW1 := Lib.hid (HW.out.trans (hb1.mono HW.out.size))
        have HE1 := Lib.hid (HE.out.keep hb1)
        have hsz1 : bb + 1 ≤ w1.heap.size := Nat.le_trans hsz hb1.size
        clear hb1
        go_wp2_with fail
        refine (HBA.out _ HE1.out).mono ?_; rintro e w2 ⟨rfl, hb2⟩
        have HBL2 := Lib.hid (HBL1.out.keep hb2)
        have HW2 := Lib.hid (HW1.out.trans (hb2.mono HW1.out.size))
        have HE2 := Lib.hid (HE1.out.keep hb2)
        have hsz2 : bb + 1 ≤ w2.heap.size := Nat.le_trans hsz1 hb2.size
        clear hb2
        have hce := HE2.out.cell
        go_wp2_with fail
        refine (is_same a _).mono ?_; rintro e w' ⟨rfl, rfl⟩
        clear hce
        go_wp2_with fail
        refine (blr_b _ _ _ 48 _ HBL2.out HLB.out hsz2).mono ?_; rintro e w3 ⟨rfl, hbl3, hc3⟩
        rw [← HS.out] at hbl3
        have HBL3 := Lib.hid hbl3
        have HW3 := Lib.hid (HW2.out.trans (hc3.below (by have := HBB.out; omega) (by have := HBB.out; omega)))
        have HE3 := Lib.hid (HE2.out.chg hc3 (by omega) (by omega))
        have hsz3 : bb + 1 ≤ w3.heap.size := Nat.le_trans hsz2 hc3.size
        clear hbl3 hc3
        go_wp2_with fail
        go_roundw
        case rel => exact ⟨k + 1, by omega, by go_num, HBL3.out, HW3.out, HE3.out, hsz3⟩
        case measure => simp [intOf]; omega
    · obtain rfl : k = s.size := by omega
      rw [HALL.out] at HBL
      clear HSN HTL HALL HGD HD HDB
      go_wp2_with fail
      refine (Go.Proofs.Tryd.Builder_String_any _ _ _ _ HBL.out.isB (by omega)).mono ?_; rintro e w6 ⟨rfl, hb6⟩
      have B6 := Lib.hid (HW.out.trans (hb6.mono (by have := HBB.out; omega)))
      clear hb6
      go_wp2_with fail
      go_ret
      exact ⟨rfl, B6.out⟩
set_option maxHeartbeats 1000000 in
theorem slideI_impl (r c : Int) (s : ByteArray) (w : World) (hs : s.size ≤ maxLen) (a n : Addr) (hv : Ev 0 a w) (hn : Ev 1 n w) :
    Calls Tryd.prog 25 #[.int .i64 r, .int .i64 c, .string s] w fun e w' => e = .returned (.tuple #[.string (slV r c true s.data.toList), .bool (slOk r c s.data.toList)]) ∧ Below w.heap.size w w' := by
  cases g0 : sdB r c
  · have hb : slOk r c s.data.toList = false := by unfold slOk; rw [g0]; rfl
    rw [sl_no hb, hb]
    have HB := Lib.hid (sliderOf_no r c a w hv g0)
    clear g0 hb hv hn hs
    go_enter Tryd.func25, Tryd.ntmps25
    go_wp2_with fail
    refine HB.out.mono ?_; rintro e w1 ⟨rfl, hb1⟩
    have B1 := Lib.hid hb1
    clear hb1
    go_wp2_with fail
    go_ret2
    exact ⟨rfl, B1.out.alloc B1.out.size _⟩
  · have HB := Lib.hid (sliderOf_yes r c w g0)
    have HT := Lib.hid (fun W => isBits_any s W hs)
    cases g1 : isB s.data.toList
    · have hb : slOk r c s.data.toList = false := by unfold slOk; rw [g0, g1]; rfl
      rw [sl_no hb, hb]
      rw [g1] at HT
      clear g0 g1 hb hv hn hs
      go_enter Tryd.func25, Tryd.ntmps25
      go_wp2_with fail
      refine HB.out.mono ?_; rintro e w1 ⟨rfl, hb1⟩
      have B1 := Lib.hid (hb1.alloc hb1.size (.cells #[.int .i64 r, .int .i64 c] 56))
      clear hb1
      go_wp2_with fail
      refine (HT.out _).mono ?_; rintro e w2 ⟨rfl, hb2⟩
      have B2 := Lib.hid (B1.out.trans (hb2.mono B1.out.size))
      clear hb2
      go_wp2_with fail
      go_ret2
      exact ⟨rfl, B2.out⟩
    · have hb : slOk r c s.data.toList = true := by unfold slOk; rw [g0, g1]; rfl
      rw [sl_yes hb, hb]
      rw [g1] at HT
      obtain ⟨B, S, rfl, rfl, r1, r2, c1, c2, h4, h5⟩ := sd_nat g0
      rw [Int.toNat_natCast, Int.toNat_natCast]
      have h400 : s.size ≤ 400 := by
        unfold isB at g1
        exact of_decide_eq_true (Bool.and_eq_true_iff.1 g1).1
      have HS := Lib.hid (fun W hv => laterB_true B S s W r1 r2 c2 h400 n hv)
      have HN := Lib.hid hn
      clear g0 g1 hb hs r1 r2 c1 c2 h4 h5 hv hn
      go_enter Tryd.func25, Tryd.ntmps25
      go_wp2_with fail
      refine HB.out.mono ?_; rintro e w1 ⟨rfl, hb1⟩
      have K1 := Lib.hid (Bk.new w1 [.int .i64 (B : Int), .int .i64 (S : Int)] 56 _ rfl)
      have B1 := Lib.hid (hb1.alloc hb1.size (.cells #[.int .i64 (B : Int), .int .i64 (S : Int)] 56))
      clear hb1
      go_wp2_with fail
      refine (HT.out _).mono ?_; rintro e w2 ⟨rfl, hb2⟩
      have K2 := Lib.hid (K1.out.keep hb2)
      have B2 := Lib.hid (B1.out.trans (hb2.mono B1.out.size))
      have q0 := K2.out.c 0 _ rfl
      have q1 := K2.out.c 1 _ rfl
      clear hb2
      go_wp2_with fail
      refine (HS.out _ (HN.out.keep B2.out)).mono ?_; rintro e w3 ⟨rfl, hb3⟩
      have B3 := Lib.hid (B2.out.trans (hb3.mono B2.out.size))
      clear hb3 q0 q1
      go_wp2_with fail
      go_ret2
      exact ⟨rfl, B3.out⟩
set_option maxHeartbeats 1000000 in
theorem slideD_impl (r c : Int) (s : ByteArray) (w : World) (hs : s.size ≤ maxLen) (a n : Addr) (hv : Ev 0 a w) (hn : Ev 1 n w) :
    Calls Tryd.prog 27 #[.int .i64 r, .int .i64 c, .string s] w fun e w' => e = .returned (.tuple #[.string (slV r c false s.data.toList), .bool (slOk r c s.data.toList)]) ∧ Below w.heap.size w w' := by
  cases g0 : sdB r c
  · have hb : slOk r c s.data.toList = false := by unfold slOk; rw [g0]; rfl
    rw [sl_no hb, hb]
    have HB := Lib.hid (sliderOf_no r c a w hv g0)
    clear g0 hb hv hn hs
    go_enter Tryd.func27, Tryd.ntmps27
    go_wp2_with fail
    refine HB.out.mono ?_; rintro e w1 ⟨rfl, hb1⟩
    have B1 := Lib.hid hb1
    clear hb1
    go_wp2_with fail
    go_ret2
    exact ⟨rfl, B1.out.alloc B1.out.size _⟩
  · have HB := Lib.hid (sliderOf_yes r c w g0)
    have HT := Lib.hid (fun W => isBits_any s W hs)
    cases g1 : isB s.data.toList
    · have hb : slOk r c s.data.toList = false := by unfold slOk; rw [g0, g1]; rfl
      rw [sl_no hb, hb]
      rw [g1] at HT
      clear g0 g1 hb hv hn hs
      go_enter Tryd.func27, Tryd.ntmps27
      go_wp2_with fail
      refine HB.out.mono ?_; rintro e w1 ⟨rfl, hb1⟩
      have B1 := Lib.hid (hb1.alloc hb1.size (.cells #[.int .i64 r, .int .i64 c] 56))
      clear hb1
      go_wp2_with fail
      refine (HT.out _).mono ?_; rintro e w2 ⟨rfl, hb2⟩
      have B2 := Lib.hid (B1.out.trans (hb2.mono B1.out.size))
      clear hb2
      go_wp2_with fail
      go_ret2
      exact ⟨rfl, B2.out⟩
    · have hb : slOk r c s.data.toList = true := by unfold slOk; rw [g0, g1]; rfl
      rw [sl_yes hb, hb]
      rw [g1] at HT
      obtain ⟨B, S, rfl, rfl, r1, r2, c1, c2, h4, h5⟩ := sd_nat g0
      rw [Int.toNat_natCast, Int.toNat_natCast]
      have h400 : s.size ≤ 400 := by
        unfold isB at g1
        exact of_decide_eq_true (Bool.and_eq_true_iff.1 g1).1
      have HS := Lib.hid (fun W hv => laterB_false B S s W r1 r2 c2 h400 n hv)
      have HN := Lib.hid hn
      clear g0 g1 hb hs r1 r2 c1 c2 h4 h5 hv hn
      go_enter Tryd.func27, Tryd.ntmps27
      go_wp2_with fail
      refine HB.out.mono ?_; rintro e w1 ⟨rfl, hb1⟩
      have K1 := Lib.hid (Bk.new w1 [.int .i64 (B : Int), .int .i64 (S : Int)] 56 _ rfl)
      have B1 := Lib.hid (hb1.alloc hb1.size (.cells #[.int .i64 (B : Int), .int .i64 (S : Int)] 56))
      clear hb1
      go_wp2_with fail
      refine (HT.out _).mono ?_; rintro e w2 ⟨rfl, hb2⟩
      have K2 := Lib.hid (K1.out.keep hb2)
      have B2 := Lib.hid (B1.out.trans (hb2.mono B1.out.size))
      have q0 := K2.out.c 0 _ rfl
      have q1 := K2.out.c 1 _ rfl
      clear hb2
      go_wp2_with fail
      refine (HS.out _ (HN.out.keep B2.out)).mono ?_; rintro e w3 ⟨rfl, hb3⟩
      have B3 := Lib.hid (B2.out.trans (hb3.mono B2.out.size))
      clear hb3 q0 q1
      go_wp2_with fail
      go_ret2
      exact ⟨rfl, B3.out⟩
end Go.Proofs.YtkgfmpkpeipddaaDoor
