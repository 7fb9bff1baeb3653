/- The program's missedChanges: the counts of changed bits that can be missed. -/
import Derived.Test.YtkgfmpkpeipddabDoorLst
import Derived.Test.YtkgfmpkpeipddabDoorCmz
namespace Go.Proofs.YtkgfmpkpeipddabDoor
open Go Go.RowKit Go.Shelf
set_option linter.unusedVariables false
attribute [local go_sem] Oper.semAt_some

theorem missedChanges_any (b : Nat) (L : Int) (w : World) :
    Calls Tryd.prog 50 #[.pointer (some ⟨b, 0, none⟩), .int .i64 L] w fun e w' => e = .returned (.func (.func 61) #[] #[.pointer (some ⟨w.heap.size, 0, none⟩), .pointer (some ⟨w.heap.size + 1, 0, none⟩)]) ∧ w' = (w.alloc (.cells #[.pointer (some ⟨b, 0, none⟩)] 42)).alloc (.cells #[.int .i64 L] 2) := by
  go_enter Tryd.func50, Tryd.ntmps50
  go_wp2_with fail
  go_ret
  exact ⟨by simp, rfl⟩
/-- The counts below k that can be missed. -/
def lmL (p d L k : Nat) : List Nat := (List.range k).filter (fun c => decide (1 ≤ c) && decide (0 < cmN p d L c))
theorem lmL_one (p d L : Nat) : lmL p d L 1 = [] := rfl
theorem lmL_succ (p d L k : Nat) (h : 1 ≤ k) : lmL p d L (k + 1) = if 0 < cmN p d L k then lmL p d L k ++ [k] else lmL p d L k := by
  unfold lmL
  rw [List.range_succ, List.filter_append]
  by_cases h0 : 0 < cmN p d L k
  · rw [if_pos h0]; simp [List.filter, h, h0]
  · rw [if_neg h0]; simp [List.filter, h, h0]
theorem lmL_len (p d L k : Nat) : (lmL p d L k).length ≤ k := Nat.le_trans (List.length_filter_le _ _) (by simp)
theorem grown_below {w w' : World} (h : Below w.heap.size w w') : w.grownBy w' none := ⟨h.os, h.tape, h.output, h.size, fun k hk _ => h.block k hk⟩

set_option maxRecDepth 100000 in
set_option maxHeartbeats 2000000 in
theorem changes_in (n : Nat) (hn : 1 ≤ n) (p d L b S l n0 : Nat) (hg : Deg p d) (h16 : d ≤ 16) (hL : L ≤ 32)
    (J Jx : List Nat → World → Prop) (W : World) (hJ : AbidesFrom W.heap.size J)
    (hY : ∀ pre x W1, J pre W1 → pre.length < 5 → YieldAt Fence.wide (n - 1) Tryd.prog l #[.int .i64 ((x : Nat) : Int)] W1 fun e W' =>
      (e = .returned (.bool true) ∧ J (pre ++ [x]) W' ∧ Below n0 W1 W') ∨ (e = .returned (.bool false) ∧ Jx (pre ++ [x]) W'))
    (hb : b < n0) (hS : S + 1 < n0) (h00 : n0 ≤ W.heap.size)
    (k1 : Bk W S [.pointer (some ⟨b, 0, none⟩)]) (k2 : Bk W (S + 1) [.int .i64 (L : Int)]) (hd : Dv W b p d (tlA p d) 0) (h0 : J [] W) :
    CallsIn Fence.wide n Tryd.prog 61 #[.func (.yield l) #[] #[], .pointer (some ⟨S, 0, none⟩), .pointer (some ⟨S + 1, 0, none⟩)] W fun e W' => (∃ v, e = .returned v) ∧
      ((∃ ys, ys = lmL p d L 5 ∧ J ys W') ∨ (∃ pre, True ∧ Jx pre W')) := by
  have HY := Lib.hid hY
  have HJ := Lib.hid hJ
  have H0 := Lib.hid h0
  have HK1 := Lib.hid k1
  have HK2 := Lib.hid k2
  have HD := Lib.hid hd
  have H00 := Lib.hid h00
  have HCM := Lib.hid (fun c W hd h1 h4 => countMissed_any b p d L c W hd hg h16 hL h1 h4)
  have hcb : ∀ c, cmN p d L c ≤ 4294967296 := fun c => by
    have := hits_le (hitB p d c) (2 ^ L)
    have := Nat.pow_le_pow_right (show 0 < 2 by omega) hL
    unfold cmN; omega
  have HCB := Lib.hid hcb
  have HSS := Lib.hid hS
  have HBB := Lib.hid hb
  clear hY hJ h0 k1 k2 hd hg h16 hL hcb h00 hS hb
  refine callsIn_of_wp Tryd.func61 rfl trivial ?_ rfl
  simp only [Tryd.ntmps61, List.size_toArray, List.length_cons, List.length_nil, Nat.reduceAdd, Nat.reduceSub, Array.replicate_succ, Array.replicate_zero, List.push_toArray, List.append_toArray, List.nil_append, List.cons_append]
  gi_wp2_with fail
  gi_loopw [4] (fun i wr => ∃ k : Nat, i = .int .i64 (k : Int) ∧ 1 ≤ k ∧ k ≤ 5 ∧ W.heap.size ≤ wr.heap.size ∧ J (lmL p d L k) wr ∧ Bk wr S [.pointer (some ⟨b, 0, none⟩)] ∧ Bk wr (S + 1) [.int .i64 (L : Int)] ∧ Dv wr b p d (tlA p d) 0)
    (fun i _ => 5 - (intOf i).toNat)
  case atStart => exact ⟨1, rfl, Nat.le_refl _, by omega, Nat.le_refl _, H0.out, HK1.out, HK2.out, HD.out⟩
  case round =>
    obtain ⟨k, rfl, g1, g5, hsz, hj, r1, r2, rd⟩ := hrel
    have t1 := r1.c 0 _ rfl
    have t2 := r2.c 0 _ rfl
    have HR1 := Lib.hid r1
    have HR2 := Lib.hid r2
    have HRD := Lib.hid rd
    have HJJ := Lib.hid hj
    have HSZ := Lib.hid hsz
    clear hj H0 HK1 HK2 HD hsz
    by_cases hlt : k ≤ 4
    · have HM := Lib.hid (HCM.out k wr rd g1 hlt)
      have HLS := Lib.hid (lmL_succ p d L k g1)
      have hcb := HCB.out k
      have HLN := Lib.hid (lmL_len p d L k)
      clear r1 r2 rd HCM HCB
      obtain ⟨C, hC⟩ : ∃ C, C = cmN p d L k := ⟨_, rfl⟩
      rw [← hC] at HM HLS hcb
      clear hC
      gi_wp2_with fail
      refine ⟨trivial, (callsIn_wide.2 HM.out).mono ?_⟩; rintro e W5 ⟨rfl, hb5⟩
      have HJ5 := Lib.hid (HJ.out _ _ _ none HJJ.out (grown_below hb5) (fun r e => by cases e))
      have HA5 := Lib.hid (HR1.out.keep hb5)
      have HB5 := Lib.hid (HR2.out.keep hb5)
      have HD5 := Lib.hid (HRD.out.keep hb5)
      have HS5 := Lib.hid (Nat.le_trans HSZ.out hb5.size)
      clear hb5 HJJ HR1 HR2 HRD HSZ HM t1 t2
      by_cases hC : 0 < C
      · have hCi : (0 : Int) < (C : Int) := by omega
        have HLP : Hid (lmL p d L (k + 1) = lmL p d L k ++ [k]) := by show _ = _; rw [HLS.out, if_pos hC]
        obtain ⟨fn, tmps, assign, body, hy, hR⟩ := HY.out _ k W5 HJ5.out (by have := HLN.out; omega)
        have HRR := Lib.hid hR
        clear hR HLS HLN
        gi_wp2_with fail
        refine HRR.out.mono ?_
        rintro e W6 (⟨rfl, hj6, hk6⟩ | ⟨rfl, hjx6⟩)
        · have HJ6 := Lib.hid hj6
          have hs6 : n0 ≤ W5.heap.size := Nat.le_trans H00.out HS5.out
          have HA6 : Hid (Bk W6 S [.pointer (some ⟨b, 0, none⟩)]) := Bk.at_ HA5.out (hk6.block S (by have := HSS.out; omega)) (by have := HSS.out; have := hk6.size; omega)
          have HB6 : Hid (Bk W6 (S + 1) [.int .i64 (L : Int)]) := Bk.at_ HB5.out (hk6.block (S + 1) HSS.out) (by have := HSS.out; have := hk6.size; omega)
          have HD6 : Hid (Dv W6 b p d (tlA p d) 0) := ⟨Bk.at_ HD5.out.1 (hk6.block b HBB.out) (by have := HBB.out; have := hk6.size; omega), HD5.out.2⟩
          have HS6 := Lib.hid (Nat.le_trans HS5.out hk6.size)
          clear hj6 hk6 hs6 HRR hy HA5 HB5 HD5 HS5
          gi_wp2_with fail
          go_roundw
          case rel => exact ⟨k + 1, by go_num, by omega, by omega, HS6.out, by rw [HLP.out]; exact HJ6.out, HA6.out, HB6.out, HD6.out⟩
          case measure => simp [intOf]; omega
        · have HJ6 := Lib.hid hjx6
          clear hjx6 HRR hy
          gi_wp2_with fail
          refine bodyPost_ret (results_none rfl _ _ _) rfl ?_
          exact ⟨⟨_, rfl⟩, .inr ⟨_, trivial, HJ6.out⟩⟩
      · obtain rfl : C = 0 := by omega
        have HLP : Hid (lmL p d L (k + 1) = lmL p d L k) := by show _ = _; rw [HLS.out, if_neg hC]
        clear HLS HLN hC
        gi_wp2_with fail
        refine ⟨fun _ h => (by cases h), ?_⟩
        gi_wp2_with fail
        go_roundw
        case rel => exact ⟨k + 1, by go_num, by omega, by omega, HS5.out, by rw [HLP.out]; exact HJ5.out, HA5.out, HB5.out, HD5.out⟩
        case measure => simp [intOf]; omega
    · obtain rfl : k = 5 := by omega
      clear r1 r2 rd t1 t2
      gi_wp2_with fail
      go_end0
      exact ⟨⟨_, rfl⟩, .inl ⟨_, rfl, HJJ.out⟩⟩
end Go.Proofs.YtkgfmpkpeipddabDoor
