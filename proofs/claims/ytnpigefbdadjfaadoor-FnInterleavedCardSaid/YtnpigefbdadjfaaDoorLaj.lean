/- The program's differences: the contract of its iterator. -/
import Derived.Test.YtnpigefbdadjfaaDoorLai
namespace Go.Proofs.YtnpigefbdadjfaaDoor
open Go Go.RowKit Go.Shelf
set_option linter.unusedVariables false
attribute [local go_sem] Oper.semAt_some

theorem grown_bel {w w' : World} (h : Below w.heap.size w w') : w.grownBy w' none := ⟨h.os, h.tape, h.output, h.size, fun k hk _ => h.block k hk⟩
theorem bk_at {W W' : World} {b : Nat} {cs : List Value} (h : Bk W b cs) (e : W'.heap[b]? = W.heap[b]?) (hs : b < W'.heap.size) : Bk W' b cs :=
  ⟨fun i x hx => (World.cell?_of_block (a := ⟨b, i, none⟩) e).trans (h.1 i x hx), fun i hi => (World.frozen?_of_block (a := ⟨b, i, none⟩) e).trans (h.2.1 i hi), hs⟩
theorem bk_low {W W' : World} {b n0 : Nat} {cs : List Value} (h : Bk W b cs) (hk : Below n0 W W') (hb : b < n0) : Bk W' b cs := bk_at h (hk.block b hb) (Nat.lt_of_lt_of_le h.2.2 hk.size)
/-- The three boxes. -/
structure DfB (S c : Nat) (R C b : Nat) (W : World) : Prop where
  b1 : Bk W S [.int .i64 (R : Int), .int .i64 (C : Int)]
  b2 : Bk W (S + 1) [.int .i64 (b : Int)]
  b3 : Bk W c [.func (.func 99) #[.agg #[.int .i64 (C : Int), .int .i64 (R : Int)]] #[]]
theorem DfB.keep {S c R C b : Nat} {W W' : World} (h : DfB S c R C b W) (hb : Below W.heap.size W W') : DfB S c R C b W' := ⟨h.b1.keep hb, h.b2.keep hb, h.b3.keep hb⟩
theorem DfB.low {S c R C b n0 : Nat} {W W' : World} (h : DfB S c R C b W) (hk : Below n0 W W') (hS : S + 1 < n0) (hc : c < n0) : DfB S c R C b W' := ⟨bk_low h.b1 hk (by omega), bk_low h.b2 hk hS, bk_low h.b3 hk hc⟩

set_option maxRecDepth 100000 in
set_option maxHeartbeats 4000000 in
theorem diffs_in (n : Nat) (hn : 1 ≤ n) (R C b S c l n0 : Nat) (hR : 1 ≤ R) (hR2 : R ≤ 20) (hC : 1 ≤ C) (hC2 : C ≤ 20) (hb2 : 2 ≤ b) (hbM : b ≤ R * C)
    (J Jx : List Nat → World → Prop) (W : World) (hJ : AbidesFrom W.heap.size J)
    (hY : ∀ pre x W1, J pre W1 → pre.length < 200000 → YieldAt Fence.wide (n - 1) Tryd.prog l #[.int .i64 ((x : Nat) : Int)] W1 fun e W' =>
      (e = .returned (.bool true) ∧ J (pre ++ [x]) W' ∧ Below n0 W1 W') ∨ (e = .returned (.bool false) ∧ Jx (pre ++ [x]) W'))
    (hS : S + 1 < n0) (hc : c < n0) (h00 : n0 ≤ W.heap.size) (hd : DfB S c R C b W) (h0 : J [] W) :
    CallsIn Fence.wide n Tryd.prog 142 #[.func (.yield l) #[] #[], .pointer (some ⟨S, 0, none⟩), .pointer (some ⟨S + 1, 0, none⟩), .pointer (some ⟨c, 0, none⟩)] W fun e W' => (∃ v, e = .returned v) ∧
      ((∃ ys, DfS R C b (R * C) 0 ys ∧ J ys W') ∨ (∃ pre, True ∧ Jx pre W')) := by
  have hM4 : R * C ≤ 400 := Nat.mul_le_mul hR2 hC2
  have HPL := Lib.hid (fun W => places_any R C W hM4)
  have HPB := Lib.hid (fun i W (hi : i < R * C) => placeB_any C R i W hR hR2 hC2 (by rw [Nat.mul_comm]; exact hi))
  have HLT := Lib.hid (fun i (hi : i < R * C) => pb_lt (r := C) (c := R) (i := i) hR (by rw [Nat.mul_comm]; exact hi))
  rw [Nat.mul_comm C R] at HLT
  have HY := Lib.hid hY
  have HJ := Lib.hid hJ
  have H0 := Lib.hid h0
  have HD := Lib.hid hd
  have H00 := Lib.hid h00
  have HSS := Lib.hid hS
  have HCC := Lib.hid hc
  have q0 := hd.b1.c 0 _ rfl
  have q1 := hd.b1.c 1 _ rfl
  have HNX := Lib.hid (fun k j pre h h1 h2 h3 => @DfS.next R C b k j pre h h1 h2 h3)
  obtain ⟨M, hM⟩ : ∃ M, M = R * C := ⟨_, rfl⟩
  rw [← hM] at hM4 HPL HPB HLT HNX hbM ⊢
  clear hR hR2 hC hC2 hY hJ h0 hd h00 hS hc hM
  have hmx : Tryd.prog.follows .mixedOrders = true := by kernel_rfl
  refine callsIn_of_wp Tryd.func142 rfl trivial ?_ rfl
  simp only [Tryd.ntmps142, List.size_toArray, List.length_cons, List.length_nil, Nat.reduceAdd, Nat.reduceSub, Array.replicate_succ, Array.replicate_zero, List.push_toArray, List.append_toArray, List.nil_append, List.cons_append]
  gi_wp2_with fail
  refine ⟨trivial, (callsIn_wide.2 (HPL.out _)).mono ?_⟩; rintro e W1 ⟨rfl, hb1⟩
  have HJ1 := Lib.hid (HJ.out _ _ _ none H0.out (grown_bel hb1) (fun r e => by cases e))
  have HD1 := Lib.hid (HD.out.keep hb1)
  have HS1 := Lib.hid hb1.size
  clear hb1 q0 q1 H0 HD HPL
  gi_wp2_with fail
  gi_loopw [10] (fun i wr => ∃ (k : Nat) (pre : List Nat), i = .int .i64 (k : Int) ∧ k ≤ M ∧ W.heap.size ≤ wr.heap.size ∧ DfS R C b k 0 pre ∧ J pre wr ∧ DfB S c R C b wr) (fun i _ => M - (intOf i).toNat)
  case atStart => exact ⟨0, [], rfl, Nat.zero_le _, HS1.out, DfS.start R C b, HJ1.out, HD1.out⟩
  case round =>
    obtain ⟨k, pre, rfl, hk, hsz, hds, hj, hdb⟩ := hrel
    have HSZ := Lib.hid hsz
    have HDS := Lib.hid hds
    have HJK := Lib.hid hj
    have HDB := Lib.hid hdb
    have q2 := hdb.b2.c 0 _ rfl
    clear hsz hds hj hdb HJ1 HD1 HS1
    by_cases hlt : k < M
    · obtain ⟨F, hF⟩ : ∃ F, F = k + 1 - b := ⟨_, rfl⟩
      have e1 : IntKind.i64.wrap ((k : Int) - (b : Int)) = (k : Int) - (b : Int) := by rw [IntKind.wrap_i64]; omega
      have e2 : IntKind.i64.wrap ((k : Int) - (b : Int) + 1) = (k : Int) - (b : Int) + 1 := by rw [IntKind.wrap_i64]; omega
      have e3 : ((k : Int) - (b : Int) + 1 ≤ 0 ∧ (F : Int) = 0) ∨ (¬ ((k : Int) - (b : Int) + 1 ≤ 0) ∧ (F : Int) = (k : Int) - (b : Int) + 1) := by omega
      have HEN := Lib.hid HDS.out.enter
      rw [← hF] at HEN
      have hFk : F ≤ k := by omega
      have hFb : k < F + b := by omega
      have E3 := Lib.hid e3
      clear hF e3
      gi_wp2_with fail
      all_goals
        gi_loopw [6] (fun f wr' => ∃ (j : Nat) (pre' : List Nat), f = .int .i64 (j : Int) ∧ j ≤ k ∧ F ≤ j ∧ W.heap.size ≤ wr'.heap.size ∧ DfS R C b k j pre' ∧ J pre' wr' ∧ DfB S c R C b wr') (fun f _ => k - (intOf f).toNat)
        case atStart => exact ⟨F, pre, by congr 1; have := E3.out; omega, hFk, Nat.le_refl _, HSZ.out, HEN.out, HJK.out, HDB.out⟩
        case round =>
          clear HDS HJK HDB HEN HSZ q2 e1 e2 E3
          obtain ⟨j, pre', rfl, hjk, hFj, hsz, hds, hj, hdb⟩ := hrel
          have HSZ := Lib.hid hsz
          have HDS := Lib.hid hds
          have HJK := Lib.hid hj
          have HDB := Lib.hid hdb
          clear hsz hds hj
          by_cases hjl : j < k
          · have hjM : j < M := by omega
            have a1 := HLT.out k hlt
            have a2 := HLT.out j hjM
            have HNP := Lib.hid (HNX.out k j pre' HDS.out hjl hlt (by omega))
            have HB1 := Lib.hid (fun W => HPB.out k W hlt)
            have HB2 := Lib.hid (fun W => HPB.out j W hjM)
            have hX : Hid (max ((pb C R k : Int) - (pb C R j : Int)) (-((pb C R k : Int) - (pb C R j : Int))) = ((dfN (pb C R j) (pb C R k) : Nat) : Int)) := by show _ = _; unfold dfN; split <;> omega
            generalize pb C R k = PK at *
            generalize pb C R j = PJ at *
            generalize dfN PJ PK = X at *
            have e4 : IntKind.i64.wrap ((PK : Int) - (PJ : Int)) = (PK : Int) - (PJ : Int) := by rw [IntKind.wrap_i64]; omega
            have e5 : IntKind.i64.wrap (-((PK : Int) - (PJ : Int))) = -((PK : Int) - (PJ : Int)) := by rw [IntKind.wrap_i64]; omega
            have HCB : Hid (∀ (W : World) (i v : Nat), (i = k ∧ v = PK) ∨ (i = j ∧ v = PJ) → Calls Tryd.prog 99 #[.agg #[.int .i64 (C : Int), .int .i64 (R : Int)], .int .i64 (i : Int)] W fun e w' => e = .returned (.int .i64 (v : Int)) ∧ Below W.heap.size W w') := by
              show ∀ _ _ _, _
              intro W i v h
              rcases h with ⟨rfl, rfl⟩ | ⟨rfl, rfl⟩
              · exact HB1.out W
              · exact HB2.out W
            clear HB1 HB2 HPB HNX HLT
            have kb := hdb.b3.drew
            have BB : Hid (Below wr.heap.size wr wr.drew) := (Below.refl _ _).drew
            have t3 := kb.c 0 _ rfl
            clear hdb
            gi_wp2_with fail
            gi_region_with_o (first
              | (refine ⟨trivial, ?_⟩; gi_at_call 99; refine (callsIn_wide.2 (HCB.out _ _ PK (by first | exact Or.inl ⟨rfl, rfl⟩))).mono ?_; rintro e w7 ⟨rfl, hb7⟩; have kb := kb.keep hb7; have BB := Lib.hid (BB.out.trans (hb7.mono BB.out.size)); clear hb7; have t3 := kb.c 0 _ rfl)
              | (refine ⟨trivial, ?_⟩; gi_at_call 99; refine (callsIn_wide.2 (HCB.out _ _ PJ (by first | exact Or.inr ⟨rfl, rfl⟩))).mono ?_; rintro e w7 ⟨rfl, hb7⟩; have kb := kb.keep hb7; have BB := Lib.hid (BB.out.trans (hb7.mono BB.out.size)); clear hb7; have t3 := kb.c 0 _ rfl)
              | fail)
            all_goals
              have HJ7 := Lib.hid (HJ.out _ _ _ none HJK.out (grown_bel BB.out) (fun r e => by cases e))
              have HD7 := Lib.hid (HDB.out.keep BB.out)
              have HS7 := Lib.hid (Nat.le_trans HSZ.out BB.out.size)
              obtain ⟨fn, tmps, assign, body, hy, hR⟩ := HY.out pre' X w7 HJ7.out (by have := HDS.out.len; omega)
              have HRR := Lib.hid hR
              clear hR kb t3 BB HCB HJK HDB HSZ
              by_cases hs : (PK : Int) - (PJ : Int) < -((PK : Int) - (PJ : Int))
              · have hXe : (X : Int) = -((PK : Int) - (PJ : Int)) := by have := hX.out; omega
                rw [hXe] at hy
                clear hXe
                gi_wp2_with fail
                refine HRR.out.mono ?_
                rintro e W8 (⟨rfl, hj8, hk8⟩ | ⟨rfl, hjx8⟩)
                · have HJ8 := Lib.hid hj8
                  have HD8 := Lib.hid (HD7.out.low hk8 HSS.out HCC.out)
                  have HS8 := Lib.hid (Nat.le_trans HS7.out hk8.size)
                  clear hj8 hk8 HRR hy HJ7 HD7 HS7
                  gi_wp2_with fail
                  go_roundw
                  case rel => exact ⟨j + 1, pre' ++ [X], by go_num, by omega, by omega, HS8.out, HNP.out, HJ8.out, HD8.out⟩
                  case measure => simp [intOf]; omega
                · have HJ8 := Lib.hid hjx8
                  clear hjx8 HRR hy
                  gi_wp2_with fail
                  refine bodyPost_ret (results_none rfl _ _ _) rfl ?_
                  exact ⟨⟨_, rfl⟩, .inr ⟨_, trivial, HJ8.out⟩⟩
              · have hXe : (X : Int) = (PK : Int) - (PJ : Int) := by have := hX.out; omega
                rw [hXe] at hy
                clear hXe
                gi_wp2_with fail
                refine HRR.out.mono ?_
                rintro e W8 (⟨rfl, hj8, hk8⟩ | ⟨rfl, hjx8⟩)
                · have HJ8 := Lib.hid hj8
                  have HD8 := Lib.hid (HD7.out.low hk8 HSS.out HCC.out)
                  have HS8 := Lib.hid (Nat.le_trans HS7.out hk8.size)
                  clear hj8 hk8 HRR hy HJ7 HD7 HS7
                  gi_wp2_with fail
                  go_roundw
                  case rel => exact ⟨j + 1, pre' ++ [X], by go_num, by omega, by omega, HS8.out, HNP.out, HJ8.out, HD8.out⟩
                  case measure => simp [intOf]; omega
                · have HJ8 := Lib.hid hjx8
                  clear hjx8 HRR hy
                  gi_wp2_with fail
                  refine bodyPost_ret (results_none rfl _ _ _) rfl ?_
                  exact ⟨⟨_, rfl⟩, .inr ⟨_, trivial, HJ8.out⟩⟩
          · obtain rfl : j = k := by omega
            have HLV := Lib.hid (HDS.out.leave (Nat.le_refl _) (by omega))
            clear hdb
            gi_wp2_with fail
            go_roundw
            case rel => exact ⟨j + 1, pre', by go_num, by omega, HSZ.out, HLV.out, HJK.out, HDB.out⟩
            case measure => simp [intOf]; omega
    · obtain rfl : k = M := by omega
      gi_wp2_with fail
      go_end0
      exact ⟨⟨_, rfl⟩, .inl ⟨_, HDS.out, HJK.out⟩⟩
end Go.Proofs.YtnpigefbdadjfaaDoor
