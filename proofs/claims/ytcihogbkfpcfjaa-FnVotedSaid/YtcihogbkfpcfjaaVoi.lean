/- The program's VoteBits. -/
import Derived.Test.YtcihogbkfpcfjaaVch
import Derived.Test.YtcihogbkfpcfjaaRpi
namespace Go.Proofs.Ytcihogbkfpcfjaa
open Go Go.RowKit Go.Shelf
set_option linter.unusedVariables false
attribute [local go_sem] Oper.semAt_some

theorem chunk_stops (n : Nat) (hn : 1 ≤ n) (S lo b R N c T K : Nat) (hT : 1 ≤ T) (hK : N = K * T) (hN : N ≤ 400) (hc : N ≤ c) (hS : S + 2 ≤ lo) (hSb : S ≠ b) (hSb2 : S + 1 ≠ b) (w : World)
    (hB1 : Blk w S 37 [.slice (some ⟨R, 0, none⟩) N c]) (hB2 : Blk w (S + 1) 3 [.int .i64 T]) (hl : S + 1 < w.heap.size) :
    SeqStopsK Fence.wide n Try.prog 84 #[.pointer (some ⟨S, 0, none⟩), .pointer (some ⟨S + 1, 0, none⟩)] (bnEnc (K := K) R T) (Chg lo b)
      (fun ys => inTurn ys K) (fun _ => True) K w := fun l J Jx W hW hJ hJx hY h0 =>
  chunk_in n hn l S lo b R N c T K hT hK hN hc hS hSb hSb2 w J Jx W hJ hY ((hW.block S (by omega)).trans hB1) ((hW.block (S + 1) hl).trans hB2) h0
theorem chg_t {lo b : Nat} {A B C : World} (h : Chg lo b A B) (k : Chg lo b B C) : Chg lo b A C := h.trans k
theorem Chg.of_gb' {lo b l : Nat} {w w' : World} (hg : w.grownBy w' (some l)) (hl : lo ≤ l) (hlt : l < w.heap.size) : Chg lo b w w' := ⟨hg.os, hg.tape, hg.output, hg.size, fun j hj _ => hg.block j (by omega) (fun x => by injection x with x; omega)⟩
theorem chg_b {lo b : Nat} {w : World} (hn : lo ≤ w.heap.size) (W : World) (l : Nat) (o o' : Obj) (hl : w.heap.size ≤ l) (h : W.heap[l]? = some o) (h1 : o.isCells = false) (h2 : o.isWalk = false) : Chg lo b W (W.putObj l o') :=
  Chg.of_gb' (grownBy_putObj' W l o') (by omega) (Array.getElem?_eq_some_iff.1 h).1
/-- The votes of blocks. -/
def vtS (bs : List UInt8) (T : Nat) {K : Nat} (pre : List (BN K)) : List UInt8 := pre.map fun x => vtC (blkL bs T x.1) T
theorem vtS_snoc (bs : List UInt8) (T : Nat) {K : Nat} (pre : List (BN K)) (x : BN K) : vtS bs T (pre ++ [x]) = vtS bs T pre ++ [vtC (blkL bs T x.1) T] := by simp [vtS]
theorem vtS_all (bs : List UInt8) (T : Nat) {K : Nat} {ys : List (BN K)} (h : inTurn ys K) : vtS bs T ys = voL bs T K := by
  unfold inTurn at h
  unfold vtS voL
  rw [← h, List.map_map]; rfl
theorem vtS_len (bs : List UInt8) (T : Nat) {K : Nat} (pre : List (BN K)) : (vtS bs T pre).length = pre.length := by simp [vtS]

set_option maxRecDepth 100000 in
set_option maxHeartbeats 2000000 in
theorem vote_impl (s : ByteArray) (t : Int) (w : World) (hs : s.size ≤ maxLen) :
    Calls Try.prog 39 #[.string s, .int .i64 t] w fun e w' => e = .returned (.tuple #[.string (voV s.data.toList t), .bool (voOk s.data.toList t)]) ∧ Below w.heap.size w w' := by
  have HBI := Lib.hid (fun W => isBits_any s W hs)
  have HVT := Lib.hid (fun W => isVote_any t W)
  have hl : ((s.data.toList.length : Nat) : Int) = (s.size : Int) := rfl
  cases g0 : isB s.data.toList
  · rw [voV_no (vo_no (.inl g0)), vo_no (.inl g0)]; clear hs hl
    rw [g0] at HBI
    clear g0 HVT
    go_enter Try.func39, Try.ntmps39
    go_wp2_with fail
    refine (HBI.out _).mono ?_; rintro e w1 ⟨rfl, hb1⟩
    have B1 := Lib.hid hb1
    clear hb1
    go_wp2_with fail
    go_ret2
    exact ⟨rfl, B1.out⟩
  · cases g1 : vtB t
    · rw [voV_no (vo_no (.inr (.inl g1))), vo_no (.inr (.inl g1))]; clear hs hl
      rw [g0] at HBI
      rw [g1] at HVT
      clear g0 g1
      go_enter Try.func39, Try.ntmps39
      go_wp2_with fail
      refine (HBI.out _).mono ?_; rintro e w1 ⟨rfl, hb1⟩
      have B1 := Lib.hid hb1
      clear hb1
      go_wp2_with fail
      refine (HVT.out _).mono ?_; rintro e w' ⟨rfl, rfl⟩
      go_wp2_with fail
      go_ret2
      exact ⟨rfl, B1.out⟩
    · obtain ⟨t1, t2, -⟩ := vt_is g1
      have ht0 : ¬ t = 0 := by omega
      have h0 : 0 ≤ t := by omega
      have h00 : (0 : Int) ≤ (s.size : Int) := by omega
      have hsz : s.size ≤ 400 := (isB_parts g0).1
      by_cases hm : (s.size : Int) % t = 0
      · have e1 : voOk s.data.toList t = true := vo_yes g0 g1 (by rw [hl]; exact hm)
        rw [voV_yes e1, e1]
        obtain ⟨T, rfl⟩ := Int.eq_ofNat_of_zero_le h0
        rw [Int.toNat_natCast, show s.data.toList.length = s.size from rfl]
        have hmn : s.size % T = 0 := by have : ((s.size % T : Nat) : Int) = (s.size : Int) % (T : Int) := Int.natCast_emod _ _; omega
        obtain ⟨K, hK⟩ : ∃ K, K = s.size / T := ⟨_, rfl⟩
        have hKT : s.size = K * T := by rw [hK]; exact (Nat.div_mul_cancel (Nat.dvd_of_mod_eq_zero hmn)).symm
        rw [← hK]
        have hK4 : K ≤ 400 := by have h4 : K * 1 ≤ K * T := Nat.mul_le_mul_left K (by omega); omega
        have hT1 : 1 ≤ T := by omega
        have hT15 : T ≤ 15 := by omega
        have hcv := fun W => convB W s
        rw [g0] at HBI
        rw [g1] at HVT
        clear e1 hmn hK hl g0 g1 t1 t2
        refine (callsIn_wide (n := 9)).1 ?_
        have hn1 : 1 ≤ 9 := by omega
        have hmx : Try.prog.follows .mixedOrders = true := by kernel_rfl
        refine callsIn_of_wp_marks Try.func39 rfl trivial ?_ rfl
        simp only [Try.ntmps39, List.size_toArray, List.length_cons, List.length_nil, Nat.reduceAdd, Nat.reduceSub, Array.replicate_succ, Array.replicate_zero, List.push_toArray, List.append_toArray, List.nil_append, List.cons_append]
        gi_wp2_with fail
        refine ⟨trivial, (callsIn_wide.2 (HBI.out _)).mono ?_⟩; rintro e w1 ⟨rfl, hb1⟩
        have B1 := Lib.hid hb1
        clear hb1 HBI
        gi_wp2_with fail
        refine ⟨trivial, (callsIn_wide.2 (HVT.out _)).mono ?_⟩; rintro e w' ⟨rfl, rfl⟩
        gi_wp2_with fail
        have hBk : Blk (w1.alloc (.cells #[.pointer none, .slice none 0 0] 63)) w1.heap.size 63 [.pointer none, .slice none 0 0] := Blk.new w1 [.pointer none, .slice none 0 0] 63 _ rfl
        have hB2 : Below w.heap.size w (w1.alloc (.cells #[.pointer none, .slice none 0 0] 63)) := B1.out.alloc B1.out.size _
        have hz2 : (w1.alloc (.cells #[.pointer none, .slice none 0 0] 63)).heap.size = w1.heap.size + 1 := by simp
        have hlow := B1.out.size
        clear B1 HVT hcv hm
        generalize w1.alloc (.cells #[.pointer none, .slice none 0 0] 63) = W2 at *
        obtain ⟨V, hV⟩ : ∃ V, V = (W2.alloc (.cells (rowB W2 s) 5 (markB W2 s))).drew := ⟨_, rfl⟩
        have hrow : ∀ i (h : i < s.size), V.cell? ⟨w1.heap.size + 1, i, none⟩ = some (.int .u8 (s[i].toNat : Int)) := by
          intro i h
          rw [hV]
          have h1 := World.cell?_alloc_mark W2.drew (rowB W2 s) 5 (markB W2 s) i
          rw [show W2.drew.heap.size = w1.heap.size + 1 from hz2] at h1
          exact h1.trans (by rw [rowB_at W2 s i h])
        have hBV : Blk V w1.heap.size 63 [.pointer none, .slice none 0 0] := by rw [hV]; exact Blk.alloc hBk _
        have hzV : V.heap.size = w1.heap.size + 2 := by rw [hV]; show (W2.alloc _).heap.size = _; simp [hz2]
        have hB3 : Below w.heap.size w V := by rw [hV]; exact (hB2.alloc hB2.size _).drew
        have hcap := capB_le W2 s
        obtain ⟨c, hc⟩ : ∃ c, c = capB W2 s := ⟨_, rfl⟩
        rw [← hV, ← hc]
        rw [← hc] at hcap
        clear hBk hB2 hz2 hV hc
        have HZ := Lib.hid hzV
        have HX1 : Hid (Blk ((V.alloc (.cells #[.slice (some ⟨w1.heap.size + 1, 0, none⟩) (K * T) c] 37)).alloc (.cells #[.int .i64 T] 3)) (w1.heap.size + 2) 37 [.slice (some ⟨w1.heap.size + 1, 0, none⟩) (K * T) c]) := Blk.alloc (Blk.new V [.slice (some ⟨w1.heap.size + 1, 0, none⟩) (K * T) c] 37 _ hzV.symm) _
        have HX2 : Hid (Blk ((V.alloc (.cells #[.slice (some ⟨w1.heap.size + 1, 0, none⟩) (K * T) c] 37)).alloc (.cells #[.int .i64 T] 3)) (w1.heap.size + 3) 3 [.int .i64 T]) := Blk.new _ [.int .i64 T] 3 _ (by simp [hzV])
        have HBB : Hid (BlR (w1.heap.size + 4) w1.heap.size [] ((V.alloc (.cells #[.slice (some ⟨w1.heap.size + 1, 0, none⟩) (K * T) c] 37)).alloc (.cells #[.int .i64 T] 3))) := BlR.start (Blk.alloc (Blk.alloc hBV _) _) (by omega)
        have HB4 : Hid (Below w.heap.size w ((V.alloc (.cells #[.slice (some ⟨w1.heap.size + 1, 0, none⟩) (K * T) c] 37)).alloc (.cells #[.int .i64 T] 3))) := (hB3.alloc hB3.size _).alloc (Nat.le_trans hB3.size (by simp)) _
        have hz4 : ((V.alloc (.cells #[.slice (some ⟨w1.heap.size + 1, 0, none⟩) (K * T) c] 37)).alloc (.cells #[.int .i64 T] 3)).heap.size = w1.heap.size + 4 := by simp [hzV]
        have HRW : Hid (∀ i (h : i < s.size), ((V.alloc (.cells #[.slice (some ⟨w1.heap.size + 1, 0, none⟩) (K * T) c] 37)).alloc (.cells #[.int .i64 T] 3)).cell? ⟨w1.heap.size + 1, i, none⟩ = some (.int .u8 (s[i].toNat : Int))) := by
          show ∀ _ _, _
          intro i h
          exact ((((Below.refl _ V).alloc (Nat.le_refl _) _).alloc (by simp) _).cell (p := ⟨w1.heap.size + 1, i, none⟩) (show w1.heap.size + 1 < V.heap.size by omega)).trans (hrow i h)
        have HZ4 := Lib.hid hz4
        refine ⟨trivial, (callsIn_wide.2 (chunk_any _ _ _ T _ hT1)).mono ?_⟩; rintro e w4 ⟨rfl, rfl⟩
        rw [hzV]
        clear hrow hBV hzV hB3 hz4 HZ
        generalize (V.alloc (.cells #[.slice (some ⟨w1.heap.size + 1, 0, none⟩) (K * T) c] 37)).alloc (.cells #[.int .i64 T] 3) = W4 at *
        generalize w1.heap.size = b at *
        gi_wp2_with fail
        refine wpIn_rangeFunc_ownF rfl hn1 (gf := 84) (lb := #[.pointer (some ⟨b + 2, 0, none⟩), .pointer (some ⟨b + 2 + 1, 0, none⟩)]) rfl trivial (enters_of Try.func84 (by kernel_rfl) rfl)
          (chunk_stops 8 (by omega) (b + 2) (b + 4) b (b + 1) (K * T) c T K hT1 rfl (by omega) (by omega) (by omega) (by omega) (by omega) W4 HX1.out HX2.out (by rw [HZ4.out]; omega)) chg_t (chg_b (by rw [HZ4.out]; omega)) (Below.refl _ _) (fun _ => rfl)
          (fun pre W => BlR (b + 4) b (Lib.byteCells (vtS s.data.toList T pre)) W ∧ Chg (b + 4) b W4 W ∧ b + 4 ≤ W.heap.size)
          (fun _ _ _ => False)
          (fun _ _ _ row hs hg hr => ⟨hs.1.own hg (fun r e => ⟨by have := (hr r e).1; rw [HZ4.out] at this; exact this, (hr r e).2⟩), hs.2.1.own hs.2.2 hg (fun r e => ⟨by have := (hr r e).1; rw [HZ4.out] at this; exact this, (hr r e).2⟩), Nat.le_trans hs.2.2 hg.size⟩)
          (fun _ _ _ _ _ hs _ _ => hs)
          ⟨HBB.out, Chg.of_below (Below.refl _ _) (Nat.le_refl _), by rw [HZ4.out]; omega⟩
          (fun x => { tmps := #[.string s, .int .i64 T, undef, undef, .string ⟨#[]⟩, .bool false, .pointer (some ⟨b, 0, none⟩), .slice (some ⟨b + 1, x.1 * T, none⟩) T T, .string s, .bool true, .bool false, .bool false, .int .i64 T, .bool true, .bool false, .bool false, .bool false, .string s, .int .i64 ((K : Int) * (T : Int)), .int .i64 T, .int .i64 0, .bool false, .bool false, .string s,
            .slice (some ⟨b + 1, 0, none⟩) (K * T) c, .int .i64 T, .func (.func 84) #[] #[.pointer (some ⟨b + 2, 0, none⟩), .pointer (some ⟨b + 2 + 1, 0, none⟩)], .slice (some ⟨b + 1, x.1 * T, none⟩) T T, undef, undef, undef, undef], defers := [] }) ?assign ?body ?done ?stop
        case assign =>
          intro l x W KK hKK
          gi_wp2
          exact hKK
        case body =>
          rintro l pre ⟨j, hj⟩ W ⟨hbl, hch, hsz4⟩ hplen
          have hle : j * T + T ≤ s.size := by
            have := Nat.mul_le_mul_right T (show j + 1 ≤ K by omega)
            rw [Nat.succ_mul] at this; omega
          have hcl : ∀ i, i < T → W.cell? ((⟨b + 1, j * T, none⟩ : Addr).add i) = some (.int .u8 ((numL (blkL s.data.toList T j)).getD i 0)) := by
            intro i hi
            have e1 : ((⟨b + 1, j * T, none⟩ : Addr).add i) = ⟨b + 1, j * T + i, none⟩ := by unfold Addr.add; split <;> simp_all
            rw [e1, World.cell?_of_block (w := W4) (a := ⟨b + 1, j * T + i, none⟩) (hch.block (b + 1) (by omega) (by omega)), HRW.out (j * T + i) (by omega)]
            have e2 : i < (blkL s.data.toList T j).length := by rw [blk_len _ _ _ (by exact hle)]; exact hi
            rw [List.getD, List.getElem?_eq_getElem (by rw [numL, List.length_map]; exact e2)]
            simp [numL, blkL]
            rfl
          have HMO := Lib.hid (mostOf_any ⟨b + 1, j * T, none⟩ T T (blkL s.data.toList T j) W (blk_len _ _ _ (by exact hle)) hT15 hcl (by show b + 1 < W.heap.size; omega))
          have HSN : Hid (vtS s.data.toList T (pre ++ [(⟨j, hj⟩ : BN K)]) = vtS s.data.toList T pre ++ [vtC (blkL s.data.toList T j) T]) := vtS_snoc _ _ _ _
          have HLN : Hid ((vtS s.data.toList T pre).length < 400) := by show _ < _; rw [vtS_len]; omega
          have HBL := Lib.hid hbl
          have HCH := Lib.hid hch
          have HS4 := Lib.hid hsz4
          clear hbl hch hcl hle hsz4
          generalize vtC (blkL s.data.toList T j) T = X at *
          generalize vtS s.data.toList T pre = M at *
          gi_wp2_with fail
          refine ⟨trivial, (CallsIn.inRound l (callsIn_wide.2 HMO.out)).mono ?_⟩; rintro e W5 ⟨rfl, hb5⟩
          have HBL5 := Lib.hid (HBL.out.keep hb5)
          have HK5 := Lib.hid (keeps_below hb5)
          have HC5 : Hid (Chg (b + 4) b W W5) := Chg.of_below hb5 HS4.out
          have HS5 : Hid (b + 4 ≤ W5.heap.size) := Nat.le_trans HS4.out hb5.size
          clear hb5
          gi_wp2_with fail
          refine ⟨trivial, (CallsIn.inRound l (callsIn_wide.2 (bly_b (b + 4) b _ (X.toNat : Int) W5 HBL5.out (by simp [Lib.byteCells]; have := HLN.out; omega) HS5.out))).mono ?_⟩; rintro e W6 ⟨rfl, hbl6, hc6, hk6⟩
          have HC6 := Lib.hid (HC5.out.trans hc6)
          have HK6 := Lib.hid (HK5.out.trans hk6)
          have HS6 := Lib.hid (Nat.le_trans HS5.out hc6.size)
          have HB6 := Lib.hid hbl6
          clear hbl6 hc6 hk6
          gi_wp2_with fail
          refine ⟨HK6.out, HC6.out, ?_, HCH.out.trans HC6.out, HS6.out⟩
          have e3 : Lib.byteCells (vtS s.data.toList T (pre ++ [(⟨j, hj⟩ : BN K)])) = Lib.byteCells M ++ [.int .u8 (X.toNat : Int)] := by rw [HSN.out]; simp [Lib.byteCells]
          rw [e3]; exact HB6.out
        case done =>
          rintro D ys W hD hin ⟨hbl, hch, hsz4⟩ hK
          rw [vtS_all _ _ hin] at hbl
          have HBL := Lib.hid hbl
          have HBE : Hid (Below w.heap.size w W) := HB4.out.trans (hch.below hlow (by omega))
          have HD := Lib.hid hD
          have HKD := Lib.hid hK
          clear hbl hch hin hD hK
          gi_wp2_with fail
          refine ⟨trivial, (callsIn_wide.2 (Go.Proofs.Try.Builder_String_any_k _ _ _ _ (Lib.IsBuilderF.of HBL.out.isB) (by omega))).mono ?_⟩; rintro e W6 ⟨rfl, -, hb6, ho6⟩
          have HB6 := Lib.hid (hb6.mono (show w.heap.size ≤ b from hlow))
          have HO6 := Lib.hid ho6
          clear hb6 ho6
          gi_wp2_with fail
          have hK6 := HO6.out D _ HKD.out (fun x => by injection x with x; have := HZ4.out; have := HD.out; omega) (fun _ _ x => by cases x)
          refine ⟨by simp, .inl ⟨_, _, rfl, run_takeDeferred hK6, ?_⟩⟩
          refine ⟨_, results_tmp2 rfl _ _ _, ?_⟩
          exact ⟨rfl, (HBE.out.trans HB6.out).trans (belowK_b (w := w) (Nat.le_refl _) W6 D _ _ (Nat.le_trans HB4.out.size HD.out) hK6 rfl rfl)⟩
        case stop =>
          rintro D c pre W _ _ h _
          exact h.elim
      · rw [voV_no (vo_no (.inr (.inr (by rw [hl]; exact hm)))), vo_no (.inr (.inr (by rw [hl]; exact hm)))]; clear hs hl
        rw [g0] at HBI
        rw [g1] at HVT
        clear g0 g1
        go_enter Try.func39, Try.ntmps39
        go_wp2_with fail
        refine (HBI.out _).mono ?_; rintro e w1 ⟨rfl, hb1⟩
        have B1 := Lib.hid hb1
        clear hb1
        go_wp2_with fail
        refine (HVT.out _).mono ?_; rintro e w' ⟨rfl, rfl⟩
        go_wp2_with fail
        go_ret2
        exact ⟨rfl, B1.out⟩
end Go.Proofs.Ytcihogbkfpcfjaa
