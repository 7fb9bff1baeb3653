/- The walk of the law FnInterleaved. -/
import Derived.Test.YtnpigefbdadjfaaDoorIvP
import Derived.Test.YtnpigefbdadjfaaDoorIli
import Derived.Test.YtnpigefbdadjfaaDoorPbi
import Derived.Test.YtnpigefbdadjfaaDoorMir
import Derived.Test.YtnpigefbdadjfaaDoorLak
import Derived.Test.YtnpigefbdadjfaaDoorR8a
import Derived.Test.YtnpigefbdadjfaaDoorR8b
import Derived.Test.YtnpigefbdadjfaaDoorR8l
import Derived.Test.YtnpigefbdadjfaaDoorErv
import Derived.Laws.Concat
namespace Go.Proofs.YtnpigefbdadjfaaDoor
open Go Go.RowKit
set_option linter.unusedVariables false

theorem below_dn {B : Nat} {w w' : World} (h : Below B w w') (q : Nat) : Below B w (w'.drewN q) := ⟨h.os, h.tape, h.output, by simpa using h.size, fun k hk => by simpa using h.block k hk⟩
theorem isB_ofI {M : List UInt8} (h : M.length ≤ 400) (h2 : inR 48 49 M = true) : isB M = true := by
  unfold isB; rw [decide_eq_true h, h2]; rfl
theorem made_repN (n : Nat) : (List.replicate n (Value.int .i64 0)) = i64V (List.replicate n 0) := by simp [i64V]
theorem made_cellsI (z : Value) (hz : z.cells = #[z]) (n : Nat) : madeCells z.cells (n * 1) = (List.replicate n z).toArray := by
  rw [hz, Nat.mul_one]
  unfold madeCells
  apply Array.ext
  · simp
  · intro i h1 h2
    simp
    rw [Nat.mod_one]
    rfl
theorem make_ints (n : Nat) (hn : n ≤ 1000) (W : World) : (Instr.makeSlice 63 (.int .i64 (n : Int)) (.int .i64 (n : Int))).run Tryd.prog W = .ok (.slice (some ⟨W.heap.size, 0, none⟩) n n) (W.alloc (.cells (i64V (List.replicate n 0)).toArray 2)) := by
  obtain ⟨i0, hi, hz0, hz1, hz2⟩ := info_parts Tryd.infoInt
  have h := run_make (P := Tryd.prog) W 63 2 i0 (.int .i64 0) Tryd.underlying63 hi hz0 .i64 .i64 n n (by omega) (Int.le_refl _) (by rw [hz2]; omega) (by omega)
  rw [hz1, Int.toNat_natCast, made_cellsI _ rfl, made_repN] at h
  exact h
theorem ba_atI {G : ByteArray} {L : List UInt8} (hG : G = ⟨L.toArray⟩) (i : Nat) (h : i < G.size) : G[i] = L.getD i 0 := by
  subst hG
  have h' : i < L.length := by
    have : (⟨L.toArray⟩ : ByteArray).size = L.length := by show L.toArray.size = _; simp
    omega
  show L.toArray[i]'_ = _
  rw [List.getElem_toArray, List.getD, List.getElem?_eq_getElem h']; rfl
theorem ba_lenI {G : ByteArray} {L : List UInt8} (hG : G = ⟨L.toArray⟩) : L.length = G.size := by
  subst hG; show _ = L.toArray.size; simp

set_option maxHeartbeats 16000000 in
set_option maxRecDepth 100000 in
theorem law_FnInterleaved (v0 : Value) (l0 : List Value) (k0 : ∀ x ∈ l0, ∃ y : Int, x = .int .u8 y ∧ 0 ≤ y ∧ y ≤ 255) (v1 : Value) (l1 : List Value) (k1 : ∀ x ∈ l1, ∃ y : Int, x = .int .u8 y ∧ 0 ≤ y ∧ y ≤ 255) (w : World)
    {x0 : Addr} (e0 : Ev 0 x0 w) {x1 : Addr} (e1 : Ev 1 x1 w) (r0 : RdV (· < w.heap.size) w v0 l0) (r1 : RdV (· < w.heap.size) w v1 l1) :
    Calls Tryd.prog 8 #[v0, v1] w fun e w' => e = .returned (.bool true) ∧ Below w.heap.size w w' := by
  have HR1 := Lib.hid r1
  have HK1 := Lib.hid k1
  have HE0 := Lib.hid e0
  have HE1 := Lib.hid e1
  obtain ⟨y0, ⟨y00, y01⟩, hy0⟩ := r8At_is w v0 l0 0 8 (by omega) r0 k0
  obtain ⟨y1, ⟨y10, y11⟩, hy1⟩ := r8At_is w v0 l0 1 8 (by omega) r0 k0
  obtain ⟨A0, n0, c0, rfl, hn0, -⟩ := r0
  obtain ⟨A1, n1, c1, rfl, hn1, -⟩ := r1
  clear k0 k1 hn0 hn1 e0 e1
  have HL := Lib.hid (fun W => r8Long_any W A0 A1 n0 c0 n1 c1)
  by_cases hz : 48 < n0 ∨ 48 < n1
  · have hz' : (decide (48 < n0) || decide (48 < n1)) = true := by rcases hz with h | h <;> simp [h]
    rw [hz'] at HL
    clear hz hz' hy0 hy1
    go_enter Tryd.func8, Tryd.ntmps8
    go_wp2_with fail
    refine (HL.out _).mono ?_; rintro e w1 ⟨rfl, q, rfl⟩
    go_wp2_with fail
    go_ret
    exact ⟨rfl, below_dn (Below.refl _ _) q⟩
  · have hz' : (decide (48 < n0) || decide (48 < n1)) = false := by simp; omega
    rw [hz'] at HL
    have HY0 : Hid (∀ W, Below w.heap.size w W → Calls Tryd.prog 45 #[.slice A0 n0 c0, .int .i64 0, .int .i64 8] W fun e w' => e = .returned (.int .i64 y0) ∧ W = w') := hy0
    have HY1 : Hid (∀ W, Below w.heap.size w W → Calls Tryd.prog 45 #[.slice A0 n0 c0, .int .i64 1, .int .i64 8] W fun e w' => e = .returned (.int .i64 y1) ∧ W = w') := hy1
    obtain ⟨R, hR⟩ : ∃ R : Nat, (R : Int) = 1 + y0 := ⟨(1 + y0).toNat, by omega⟩
    obtain ⟨C, hC⟩ : ∃ C : Nat, (C : Int) = 1 + y1 := ⟨(1 + y1).toNat, by omega⟩
    have wa : IntKind.i64.wrap (1 + y0) = (R : Int) := by rw [hR]; exact IntWalk.i64_in _ (by omega)
    have wb : IntKind.i64.wrap (1 + y1) = (C : Int) := by rw [hC]; exact IntWalk.i64_in _ (by omega)
    have hR8 : 1 ≤ R ∧ R ≤ 8 := by omega
    have hC8 : 1 ≤ C ∧ C ≤ 8 := by omega
    obtain ⟨N, hN⟩ : ∃ N, N = R * C := ⟨_, rfl⟩
    have hN64 : N ≤ 64 := by rw [hN]; exact Nat.mul_le_mul hR8.2 hC8.2
    have hN1 : 1 ≤ N := by rw [hN]; exact Nat.mul_le_mul hR8.1 hC8.1
    have wN : IntKind.i64.wrap ((R : Int) * (C : Int)) = (N : Int) := by rw [hN, Int.natCast_mul]; exact IntWalk.i64_in _ (by rw [← Int.natCast_mul, ← hN]; omega)
    have HN := Lib.hid hN
    have HBI := Lib.hid (fun (s : ByteArray) W (hs : s.size ≤ maxLen) (h : Below w.heap.size w W) => blockI_impl (R : Int) (C : Int) s W hs x0 (HE0.out.keep h))
    have HBD := Lib.hid (fun (s : ByteArray) W (hs : s.size ≤ maxLen) (h : Below w.heap.size w W) => blockD_impl (C : Int) (R : Int) s W hs x0 (HE0.out.keep h))
    have HPB := Lib.hid (fun (i : Int) W (h : Below w.heap.size w W) => placeBehind_impl (R : Int) (C : Int) i W x0 (HE0.out.keep h))
    have HMI := Lib.hid (fun (b : Int) W (h : Below w.heap.size w W) => mostInRow_impl (R : Int) (C : Int) b W x0 (HE0.out.keep h))
    have HLA := Lib.hid (fun (b : Int) W (h : Below w.heap.size w W) => leastApart_impl (R : Int) (C : Int) b W x0 x1 (HE0.out.keep h) (HE1.out.keep h))
    have hsd : sdB (R : Int) (C : Int) = true := by unfold sdB; rw [decide_eq_true (by omega), decide_eq_true (by omega)]; rfl
    have HSD := Lib.hid hsd
    clear hz hz' hy0 hy1 hR hC hN y00 y01 y10 y11 hsd HE0 HE1
    go_enter Tryd.func8, Tryd.ntmps8
    go_wp2_with fail
    refine (HL.out _).mono ?_; rintro e w1 ⟨rfl, q, rfl⟩
    have B1 : Hid (Below w.heap.size w (w.drewN q)) := below_dn (Below.refl _ _) q
    go_wp2_with fail
    refine (HY0.out _ B1.out).mono ?_; rintro e w' ⟨rfl, rfl⟩
    go_wp2_with fail
    refine (HY1.out _ B1.out).mono ?_; rintro e w' ⟨rfl, rfl⟩
    go_wp2_with fail
    clear HY0 HY1 HL wa wb
    go_loopw [7, 8] (fun t i wr => ∃ (k : Nat) (E : List UInt8), k ≤ N ∧ i = .int .i64 k ∧ t = .string ⟨E.toArray⟩ ∧ E.length = k ∧ inR 48 49 E = true ∧ Below w.heap.size w wr) (fun _ i _ => N - (intOf i).toNat)
    case atStart => exact ⟨0, [], Nat.zero_le _, rfl, rfl, rfl, rfl, B1.out⟩
    case round =>
      obtain ⟨k, E, hk, rfl, rfl, hel, hei, hb⟩ := hrel
      have B6 := Lib.hid hb
      have HEI := Lib.hid hei
      have HEL := Lib.hid hel
      clear hb hei hel B1
      by_cases hlt : k < N
      · have hltI : (k : Int) < (N : Int) := by omega
        obtain ⟨q48, hq48⟩ : ∃ q48 : Nat, q48 = k % 48 := ⟨_, rfl⟩
        have hq : (k : Int) % 48 = (q48 : Int) := by omega
        obtain ⟨a, ⟨a0, a1⟩, ha⟩ := r8At_is w _ l1 q48 2 (by decide) HR1.out HK1.out
        have HA : Hid (∀ W, Below w.heap.size w W → Calls Tryd.prog 45 #[.slice A1 n1 c1, .int .i64 (q48 : Int), .int .i64 2] W fun e w' => e = .returned (.int .i64 a) ∧ W = w') := ha
        obtain ⟨c, hc⟩ := byte_num (48 + a) (by omega) (by omega)
        have hc1 : 48 ≤ (c.toNat : Int) ∧ (c.toNat : Int) ≤ 49 := by omega
        have wk : IntKind.i64.wrap ((k : Int) + 1) = (k : Int) + 1 := IntWalk.i64_in _ (by omega)
        have k0 : (0 : Int) ≤ (k : Int) := by omega
        obtain ⟨x, hx⟩ : ∃ x, x = 48 + a := ⟨_, rfl⟩
        have w1 : IntKind.i64.wrap (48 + a) = x := by rw [hx]; exact IntWalk.i64_in _ (by omega)
        have w2 : IntKind.u8.wrap x = x := IntWalk.u8_in _ (by omega)
        have w4 : IntKind.i64.wrap (q48 : Int) = (q48 : Int) := IntWalk.i64_in _ (by omega)
        have hcx : (c.toNat : Int) = x := by rw [hx]; exact hc
        have hcv : (convert 22 9 (.slice (some ⟨wr.heap.size, 0, none⟩) 1 1)).run Tryd.prog (wr.alloc (.cells #[.int .u8 x] 5)) = .ok (.string ⟨#[c]⟩) (wr.alloc (.cells #[.int .u8 x] 5)) := by
          refine run_convert_bytes_back _ _ _ 5 ⟨wr.heap.size, 0, none⟩ 1 [c] Tryd.underlying22 Tryd.underlying5 Tryd.underlying9 (fun j hj => ?_)
          obtain rfl : j = 0 := by simpa using hj
          rw [c1_one wr (.int .u8 x) 5 0 _ rfl]
          exact congrArg (fun y : Int => some (Value.int .u8 y)) hcx.symm
        have r2 : ∀ W : World, (Op.stringOp .add ⟨E.toArray⟩ ⟨#[c]⟩).run Tryd.prog W = .ok (.string ⟨(E ++ [c]).toArray⟩) W := fun W => by
          rw [run_string_add_sum W _ _ (by show E.toArray.size + 1 ≤ _; rw [List.size_toArray]; have := HEL.out; omega), ByteArray.mk_append_mk]
        have HIN : Hid (inR 48 49 (E ++ [c]) = true) := inR_one HEI.out hc1
        have BN := Lib.hid (B6.out.alloc B6.out.size (.cells #[.int .u8 x] 5))
        clear ha hc hx hcx hc1 hq48
        go_wp2_with fail
        refine (HA.out _ B6.out).mono ?_; rintro e w' ⟨rfl, rfl⟩
        go_wp2_with fail
        go_roundw
        case rel => exact ⟨k + 1, E ++ [c], by omega, by go_num, rfl, by rw [List.length_append, HEL.out]; rfl, HIN.out, BN.out⟩
        case measure => simp [intOf]; omega
      · obtain rfl : N = k := by omega
        have hltI : ¬ (N : Int) < (N : Int) := by omega
        have hR0 : 0 < R := by omega
        have hC0 : 0 < C := by omega
        have hel := HEL.out
        have hNE := HN.out
        have hEB : isB E = true := isB_ofI (by omega) HEI.out
        obtain ⟨GE, hGE⟩ : ∃ GE : ByteArray, GE = ⟨E.toArray⟩ := ⟨_, rfl⟩
        have hGd : GE.data.toList = E := by rw [hGE]
        have hGl := ba_lenI hGE
        have hok : blkOk (R : Int) (C : Int) E = true := by
          unfold blkOk
          rw [HSD.out, hEB, decide_eq_true (by rw [hel, hNE]; exact Int.natCast_mul _ _)]; rfl
        obtain ⟨F, hF⟩ : ∃ F, F = blkL R C E := ⟨_, rfl⟩
        obtain ⟨GF, hGF⟩ : ∃ GF : ByteArray, GF = ⟨F.toArray⟩ := ⟨_, rfl⟩
        have hFd : GF.data.toList = F := by rw [hGF]
        have hFl := ba_lenI hGF
        have hFN : F.length = N := by rw [hF]; unfold blkL; rw [blkT_len, hNE]
        have hv1 : blkV (R : Int) (C : Int) E = GF := by
          rw [blk_yes hok, Int.toNat_natCast, Int.toNat_natCast, ← hF, hGF]
        have hFB : isB F = true := by
          refine isB_ofI (by omega) ?_
          rw [hF]
          unfold inR blkL blkT
          rw [List.all_eq_true]
          intro x hx
          obtain ⟨j, hj, rfl⟩ := List.mem_map.1 hx
          have hjN : j < R * C := by simpa using hj
          have h2 := pb_lt2 hR0 hjN
          rw [List.getD, List.getElem?_eq_getElem (by omega)]
          have h3 := HEI.out
          unfold inR at h3
          rw [List.all_eq_true] at h3
          exact h3 _ (List.getElem_mem _)
        have hok2 : blkOk (C : Int) (R : Int) F = true := by
          rw [blk_comm]
          unfold blkOk
          rw [HSD.out, hFB, decide_eq_true (by rw [hFN, hNE]; exact Int.natCast_mul _ _)]; rfl
        have hv2 : blkV (C : Int) (R : Int) F = GE := by
          rw [blk_yes hok2, Int.toNat_natCast, Int.toNat_natCast, hF, blkL_back hR0 hC0 E (by rw [hel, hNE]), hGE]
        have C1 := Lib.hid (fun W h => HBI.out GE W (by unfold maxLen; omega) h)
        rw [hGd, hok, hv1] at C1
        have C2 := Lib.hid (fun W h => HBD.out GF W (by unfold maxLen; omega) h)
        rw [hFd, hok2, hv2] at C2
        have HAT : Hid (∀ i, i < N → F.getD (pb R C i) 0 = E.getD i 0) := by
          show ∀ i, _
          intro i hi
          rw [hF]; exact blkL_at hR0 hC0 E i (by omega)
        have es : ((GF.size : Int) != (GE.size : Int)) = false := by rw [show (GF.size : Int) = (GE.size : Int) by omega]; simp
        have HGE := Lib.hid hGE
        have HGF := Lib.hid hGF
        have HES : Hid (GE.size = N) := by show _ = _; omega
        have HFS : Hid (GF.size = N) := by show _ = _; omega
        rw [← hGE]
        have HMK := Lib.hid (fun W => make_ints N (by omega) W)
        have HMR := Lib.hid (fun W => make_ints R (by omega) W)
        clear hGd hGl hok hF hFd hFl hFN hv1 hFB hok2 hv2 hEB hel hGE hGF hlt hk HEL HEI HBI HBD hNE
        go_wp2_with fail
        refine (C1.out _ B6.out).mono ?_; rintro e w2 ⟨rfl, hb2⟩
        have B2 := Lib.hid (B6.out.trans (hb2.mono B6.out.size))
        clear hb2 B6 C1
        go_wp2_with fail
        refine (C2.out _ B2.out).mono ?_; rintro e w3 ⟨rfl, hb3⟩
        have B3 := Lib.hid (B2.out.trans (hb3.mono B2.out.size))
        clear hb3 B2 C2
        have hmk := HMK.out w3
        obtain ⟨w4, hw4⟩ : ∃ w4, w4 = w3.alloc (.cells (i64V (List.replicate N 0)).toArray 2) := ⟨_, rfl⟩
        have K4 : Hid (Bk w4 w3.heap.size (i64V (whM R C 0))) := by
          show Bk _ _ _
          rw [hw4, whM_zero, ← HN.out]; exact Bk.new w3 (i64V (List.replicate N 0)) _ _ rfl
        have B4 : Hid (Below w.heap.size w w4) := by show Below _ _ _; rw [hw4]; exact B3.out.alloc B3.out.size _
        have HX3 := Lib.hid B3.out.size
        have HW4 := Lib.hid hw4
        clear hw4 B3
        go_wp2_with fail
        rw [← HW4.out]
        clear hmk HW4 HMK es
        generalize w3.heap.size = X at *
        go_loopw [14] (fun i wr => ∃ k : Nat, k ≤ N ∧ i = .int .i64 k ∧ Bk wr X (i64V (whM R C k)) ∧ Below w.heap.size w wr) (fun i _ => N - (intOf i).toNat)
        case atStart => exact ⟨0, Nat.zero_le _, rfl, K4.out, B4.out⟩
        case round =>
          obtain ⟨k, hk, rfl, hbk, hb⟩ := hrel
          have K5 := Lib.hid hbk
          have B5 := Lib.hid hb
          clear hbk hb K4 B4
          by_cases hlt : k < N
          · have hkI : (k : Int) < (N : Int) := by omega
            have hpb : pbOk (R : Int) (C : Int) (k : Int) = true := by
              unfold pbOk
              rw [HSD.out, decide_eq_true (by
                have h1 : (N : Int) = (R : Int) * (C : Int) := by rw [HN.out]; exact Int.natCast_mul _ _
                omega)]; rfl
            have C3 := Lib.hid (fun W h => HPB.out (k : Int) W h)
            rw [pb_yes hpb, hpb, Int.toNat_natCast, Int.toNat_natCast, Int.toNat_natCast] at C3
            have hlt2 : k < R * C := by rw [← HN.out]; exact hlt
            have hP : pb R C k < N := by rw [HN.out]; exact pb_lt hC0 hlt2
            have hat := HAT.out k hlt
            have hset := whM_set hR0 hC0 k hlt2
            have hfl : (whM R C k).length = N := by rw [whM_len, HN.out]
            have HST : Hid (∀ W, Bk W X (i64V (whM R C k)) → Bk (W.setCell ⟨X, pb R C k, none⟩ (.int .i64 (k : Int))) X (i64V (whM R C (k + 1)))) := by
              show ∀ W, _
              intro W hW
              rw [hset, ← i64V_set]
              exact hW.set _ (by unfold i64V; rw [List.length_map, hfl]; exact hP) _
            have hcl := i64V_at (whM R C k) (pb R C k) (by rw [hfl]; exact hP)
            obtain ⟨P, hPe⟩ : ∃ P, P = pb R C k := ⟨_, rfl⟩
            rw [← hPe] at C3 hP hat HST hcl
            have p7 : k < GE.size := by have := HES.out; omega
            have p8 : P < GF.size := by have := HFS.out; omega
            have hE := ba_atI HGE.out k p7
            have hF := ba_atI HGF.out P p8
            rw [hat, ← hE] at hF
            have p0 : ¬ (P : Int) < 0 := by omega
            have p1 : ¬ (N : Int) ≤ (P : Int) := by omega
            have p1n : decide (N ≤ P) = false := by simp; omega
            have p1m : ¬ N ≤ P := by omega
            have p2 : (0 : Int) ≤ (P : Int) := by omega
            have p3 : (P : Int) < (GF.size : Int) := by have := HFS.out; omega
            have p4 : (k : Int) < (GE.size : Int) := by have := HES.out; omega
            have p5 : (0 : Int) ≤ (k : Int) := by omega
            have p6 : (P : Int) < (N : Int) := by omega
            have e9 : ((GE[k].toNat : Int) != (GE[k].toNat : Int)) = false := by simp
            have wk : IntKind.i64.wrap ((k : Int) + 1) = (k : Int) + 1 := IntWalk.i64_in _ (by omega)
            have HPN := Lib.hid hP
            have HFL := Lib.hid hfl
            clear hpb hat hset hPe hlt2 hfl hcl hE hP
            go_wp2_with fail
            refine (C3.out _ B5.out).mono ?_; rintro e w6 ⟨rfl, hb6⟩
            have K6 := Lib.hid (K5.out.keep hb6)
            have B6 := Lib.hid (B5.out.trans (hb6.mono B5.out.size))
            clear hb6 K5 B5 C3
            go_wp2_with fail
            go_quiet (fail)
            have hf := fun q => (K6.out.drewN q).f P (by unfold i64V; rw [List.length_map, HFL.out]; exact HPN.out)
            have hc := fun q => (K6.out.drewN q).c P _ (i64V_at (whM R C k) P (by rw [HFL.out]; exact HPN.out))
            go_wp2_with fail
            go_roundw
            case rel => exact ⟨k + 1, by omega, by go_num, HST.out _ (K6.out.drewN _), (below_dn B6.out _).setCell (by have := HX3.out; exact this) _⟩
            case measure => simp [intOf]; omega
          · obtain rfl : N = k := by omega
            have hnl : ¬ (N : Int) < (N : Int) := by omega
            obtain ⟨b0, ⟨b00, b01⟩, hb0⟩ := r8At_is w _ l1 0 N (by omega) HR1.out HK1.out
            have HB0 : Hid (∀ W, Below w.heap.size w W → Calls Tryd.prog 45 #[.slice A1 n1 c1, .int .i64 0, .int .i64 (N : Int)] W fun e w' => e = .returned (.int .i64 b0) ∧ W = w') := hb0
            obtain ⟨Bu, hBu⟩ : ∃ Bu : Nat, (Bu : Int) = 1 + b0 := ⟨(1 + b0).toNat, by omega⟩
            obtain ⟨NB, hNB⟩ : ∃ NB : Nat, NB = N - Bu := ⟨_, rfl⟩
            obtain ⟨T, hT⟩ : ∃ T : Nat, T = NB + 1 := ⟨_, rfl⟩
            obtain ⟨f0, ⟨f00, f01⟩, hf0⟩ := r8At_is w _ l1 1 T (by omega) HR1.out HK1.out
            obtain ⟨Fm, rfl⟩ : ∃ Fm : Nat, f0 = (Fm : Int) := ⟨f0.toNat, by omega⟩
            have HF0 : Hid (∀ W, Below w.heap.size w W → Calls Tryd.prog 45 #[.slice A1 n1 c1, .int .i64 1, .int .i64 (T : Int)] W fun e w' => e = .returned (.int .i64 (Fm : Int)) ∧ W = w') := hf0
            obtain ⟨S, hS⟩ : ∃ S : Nat, S = Fm + Bu := ⟨_, rfl⟩
            have hSN : S ≤ N := by omega
            have hBu1 : 1 ≤ Bu ∧ Bu ≤ N := by omega
            have wa : IntKind.i64.wrap (1 + b0) = (Bu : Int) := by rw [hBu]; exact IntWalk.i64_in _ (by omega)
            have wb : IntKind.i64.wrap ((N : Int) - (Bu : Int)) = (NB : Int) := by rw [IntWalk.i64_in _ (by omega)]; omega
            have wc : IntKind.i64.wrap ((NB : Int) + 1) = (T : Int) := by rw [IntWalk.i64_in _ (by omega)]; omega
            have wd : IntKind.i64.wrap ((Fm : Int) + (Bu : Int)) = (S : Int) := by rw [IntWalk.i64_in _ (by omega)]; omega
            have hNI : (N : Int) = (R : Int) * (C : Int) := by rw [HN.out]; exact Int.natCast_mul _ _
            have hmi : miOk (R : Int) (C : Int) (Bu : Int) = true := by
              unfold miOk
              rw [HSD.out, decide_eq_true (by omega)]; rfl
            have C5 := Lib.hid (fun W h => HMI.out (Bu : Int) W h)
            rw [mi_yes hmi, hmi, Int.toNat_natCast, Int.toNat_natCast] at C5
            have hla : ∃ (L : Int) (o : Bool), laV (R : Int) (C : Int) (Bu : Int) = L ∧ laOk (R : Int) (C : Int) (Bu : Int) = o ∧ (o == decide (1 < (Bu : Int))) = true ∧ (-1000 ≤ L ∧ L ≤ 1000) ∧ ∀ i k, k < i → i < N → i < k + Bu → L ≤ (dfN (pb C R k) (pb C R i) : Nat) := by
              by_cases h2 : 2 ≤ Bu
              · have hk : laOk (R : Int) (C : Int) (Bu : Int) = true := by
                  unfold laOk
                  rw [HSD.out, decide_eq_true (by omega)]; rfl
                refine ⟨_, true, rfl, hk, by rw [decide_eq_true (by omega)]; rfl, ?_, fun i k h1 hi hk2 => ?_⟩
                · rw [la_yes hk, Int.toNat_natCast, Int.toNat_natCast, Int.toNat_natCast]
                  have := lapV_lt (r := R) (c := C) (b := Bu) hR0 h2 (by rw [← HN.out]; omega)
                  rw [← HN.out] at this; omega
                · rw [la_yes hk, Int.toNat_natCast, Int.toNat_natCast, Int.toNat_natCast]
                  have := burst_far (r := R) (c := C) (b := Bu) (i := i) (k := k) hR0 h2 (by rw [← HN.out]; omega) h1 (by rw [← HN.out]; exact hi) hk2
                  omega
              · have hk : laOk (R : Int) (C : Int) (Bu : Int) = false := by
                  unfold laOk
                  rw [HSD.out, decide_eq_false (by omega)]; rfl
                exact ⟨_, false, rfl, hk, by rw [decide_eq_false (by omega)]; rfl, by rw [la_no hk]; decide, fun i k h1 hi hk2 => by omega⟩
            obtain ⟨L, o, la1, la2, la3, la4, la5⟩ := hla
            have C6 := Lib.hid (fun W h => HLA.out (Bu : Int) W h)
            rw [la1, la2] at C6
            have HAP := Lib.hid la5
            have HROW := Lib.hid (fun t (ht : t < Bu) => burst_row (r := R) Fm t Bu hR0 ht)
            have HCL := Lib.hid (fun t j => cnR_le (r := R) Fm hR0 t j)
            obtain ⟨Mo, hMo⟩ : ∃ Mo, Mo = mxR R Bu := ⟨_, rfl⟩
            rw [← hMo] at C5 HROW
            have HSS := Lib.hid hS
            have HMO : Hid True := trivial
            clear hb0 hf0 hBu hT hNB hS hmi la1 la2 la5 hMo hNI b00 b01 HMI HLA HPB HAT HGE HGF HES HFS HR1 HK1
            have hN0 : ¬ (N : Int) ≤ 1 ∨ True := Or.inr trivial
            clear hN0
            go_wp2_with fail
            refine (HB0.out _ B5.out).mono ?_; rintro e w' ⟨rfl, rfl⟩
            go_wp2_with fail
            refine (HF0.out _ B5.out).mono ?_; rintro e w' ⟨rfl, rfl⟩
            go_wp2_with fail
            refine (C5.out _ B5.out).mono ?_; rintro e w6 ⟨rfl, hb6⟩
            have K6 := Lib.hid (K5.out.keep hb6)
            have B6 := Lib.hid (B5.out.trans (hb6.mono B5.out.size))
            clear hb6 K5 B5 C5 HB0 HF0
            go_wp2_with fail
            refine (C6.out _ B6.out).mono ?_; rintro e w7 ⟨rfl, hb7⟩
            have K7 := Lib.hid (K6.out.keep hb7)
            have B7 := Lib.hid (B6.out.trans (hb7.mono B6.out.size))
            clear hb7 K6 B6 C6
            have hmk := HMR.out w7
            obtain ⟨w8, hw8⟩ : ∃ w8, w8 = w7.alloc (.cells (i64V (List.replicate R 0)).toArray 2) := ⟨_, rfl⟩
            have k8 : Below w7.heap.size w7 w8 := by rw [hw8]; exact (Below.refl _ _).alloc (Nat.le_refl _) _
            have J8 : Hid (Bk w8 w7.heap.size (i64V (cnR R Fm 0))) := by
              show Bk _ _ _
              rw [hw8]; exact Bk.new w7 (i64V (List.replicate R 0)) _ _ rfl
            have K8 := Lib.hid (K7.out.keep k8)
            have B8 := Lib.hid (B7.out.trans (k8.mono B7.out.size))
            have HXY : Hid (X < w7.heap.size) := K7.out.2.2
            have HY3 := Lib.hid B7.out.size
            have HW8 := Lib.hid hw8
            clear hw8 k8 B7 K7
            go_wp2_with fail
            rw [← HW8.out]
            clear hmk HW8 HMR la3
            generalize w7.heap.size = Y at *
            go_loopw [24] (fun i wr => ∃ t : Nat, t ≤ Bu ∧ i = .int .i64 ((Fm + t : Nat) : Int) ∧ Bk wr Y (i64V (cnR R Fm t)) ∧ Bk wr X (i64V (whM R C N)) ∧ Below w.heap.size w wr) (fun i _ => S - (intOf i).toNat)
            case atStart => exact ⟨0, Nat.zero_le _, rfl, J8.out, K8.out, B8.out⟩
            case round =>
              obtain ⟨t, ht, rfl, hbj, hbk, hb⟩ := hrel
              have J9 := Lib.hid hbj
              have K9 := Lib.hid hbk
              have B9 := Lib.hid hb
              clear hbj hbk hb J8 K8 B8
              obtain ⟨I, hI⟩ : ∃ I : Nat, I = Fm + t := ⟨_, rfl⟩
              rw [← hI]
              have hse := HSS.out
              by_cases hlt : t < Bu
              · have hIS : (I : Int) < (S : Int) := by omega
                have hIN : I < N := by omega
                have hI2 : I < R * C := by rw [← HN.out]; exact hIN
                have hwl : (whM R C N).length = N := by rw [whM_len, HN.out]
                have HWA : Hid (∀ j, j < N → (i64V (whM R C N))[j]? = some (.int .i64 ((pb C R j : Nat) : Int))) := by
                  show ∀ j, _
                  intro j hj
                  rw [i64V_at _ _ (by rw [hwl]; exact hj), HN.out, whM_at hR0 (by rw [← HN.out]; exact hj)]
                have hP : pb C R I < N := by rw [HN.out]; exact pb_lt2 hR0 hI2
                have hPR := pb_row hR0 hI2
                have hq0 : I % R < R := Nat.mod_lt _ hR0
                have hwI := HWA.out I hIN
                have hfar := fun k h1 h2 => HAP.out I k h1 hIN h2
                obtain ⟨P, hPe⟩ : ∃ P, P = pb C R I := ⟨_, rfl⟩
                rw [← hPe] at hP hPR hwI hfar
                obtain ⟨Q, hQ⟩ : ∃ Q, Q = I % R := ⟨_, rfl⟩
                rw [← hQ] at hPR hq0
                have hcl : (cnR R Fm t).length = R := cnR_len R Fm t
                have hrw := HROW.out t hlt
                rw [← hI, ← hQ] at hrw
                have hc0 := i64V_at (cnR R Fm t) Q (by omega)
                have hc1 := HCL.out t Q
                have hnx : cnR R Fm (t + 1) = (cnR R Fm t).set Q ((cnR R Fm t).getD Q 0 + 1) := by rw [hQ, hI]; rfl
                obtain ⟨c, hc⟩ : ∃ c, c = (cnR R Fm t).getD Q 0 := ⟨_, rfl⟩
                rw [← hc] at hrw hc0 hc1 hnx
                have HST : Hid (∀ W, Bk W Y (i64V (cnR R Fm t)) → Bk (W.setCell ⟨Y, Q, none⟩ (.int .i64 ((c + 1 : Nat) : Int))) Y (i64V (cnR R Fm (t + 1)))) := by
                  show ∀ W, _
                  intro W hW
                  rw [hnx, ← i64V_set]
                  exact hW.set _ (by unfold i64V; rw [List.length_map, hcl]; exact hq0) _
                have dv : (P : Int) / (C : Int) = (Q : Int) := by rw [← hPR]; exact (Int.natCast_ediv _ _).symm
                have C0 : ¬ (C : Int) = 0 := by omega
                have C1 : ((C : Int) == 0) = false := by simp; omega
                have C2 : (0 : Int) < (C : Int) := by omega
                have P0 : (0 : Int) ≤ (P : Int) := by omega
                have i1 : (0 : Int) ≤ (I : Int) := by omega
                have i2 : (I : Int) < (N : Int) := by omega
                have i3 : (0 : Int) ≤ (Q : Int) := by omega
                have i4 : (Q : Int) < (R : Int) := by omega
                have i5 : c ≤ 64 := by omega
                have wq : IntKind.i64.wrap (Q : Int) = (Q : Int) := IntWalk.i64_in _ (by omega)
                have wc1 : IntKind.i64.wrap ((c : Int) + 1) = ((c + 1 : Nat) : Int) := by rw [IntWalk.i64_in _ (by omega)]; omega
                have nm : ¬ (Mo : Int) < ((c + 1 : Nat) : Int) := by omega
                have wI : IntKind.i64.wrap ((I : Int) + 1) = (I : Int) + 1 := IntWalk.i64_in _ (by omega)
                have g1 := K9.out.c I _ hwI
                have g2 := J9.out.c Q _ hc0
                have g3 := J9.out.f Q (by unfold i64V; rw [List.length_map, hcl]; exact hq0)
                have JN := Lib.hid (HST.out _ J9.out)
                have KN := Lib.hid (K9.out.far ⟨Y, Q, none⟩ (by have := HXY.out; simp; omega) (.int .i64 ((c + 1 : Nat) : Int)))
                have BN := Lib.hid (B9.out.setCell (p := ⟨Y, Q, none⟩) HY3.out (.int .i64 ((c + 1 : Nat) : Int)))
                have g4 := KN.out.c I _ hwI
                have g5 := JN.out.c Q (.int .i64 ((c + 1 : Nat) : Int)) (by
                  rw [i64V_at _ _ (by rw [cnR_len]; exact hq0), hnx, List.getD, List.getElem?_set_self (by rw [hcl]; exact hq0)]; rfl)
                have HIS := Lib.hid hIS
                have HIN := Lib.hid hIN
                have HIE := Lib.hid hI
                have HLT := Lib.hid hlt
                have HFAR := Lib.hid hfar
                have HPN := Lib.hid hP
                have HPE : Hid (P = pb C R I) := hPe
                clear hPR hc hnx hcl hc0 hc1 hrw hQ hPe hfar hI hse hq0 hwI hwl hI2 hIN HST HROW HCL
                obtain ⟨c1, hc1⟩ : ∃ c1 : Nat, c1 = c + 1 := ⟨_, rfl⟩
                rw [← hc1] at wc1 nm JN KN BN g4 g5
                have nmN : ¬ Mo < c1 := by omega
                have hISN : I < S := by omega
                clear hc1
                go_wp2_with fail
                clear g1 g2 g3 g4 g5 J9 K9 B9
                generalize hwz : wr.setCell ⟨Y, Q, none⟩ (.int .i64 (c1 : Int)) = wz at *
                clear hwz
                go_loopw [25] (fun i wr => ∃ s : Nat, s ≤ t ∧ i = .int .i64 ((Fm + s : Nat) : Int) ∧ Bk wr Y (i64V (cnR R Fm (t + 1))) ∧ Bk wr X (i64V (whM R C N)) ∧ Below w.heap.size w wr) (fun i _ => I - (intOf i).toNat)
                case atStart => exact ⟨0, Nat.zero_le _, rfl, JN.out, KN.out, BN.out⟩
                case round =>
                  obtain ⟨s, hs, rfl, hbj, hbk, hb⟩ := hrel
                  have J9 := Lib.hid hbj
                  have K9 := Lib.hid hbk
                  have B9 := Lib.hid hb
                  clear hbj hbk hb JN KN BN
                  obtain ⟨V, hV⟩ : ∃ V : Nat, V = Fm + s := ⟨_, rfl⟩
                  rw [← hV]
                  have hie := HIE.out
                  by_cases hlt2 : s < t
                  · have hVI : (V : Int) < (I : Int) := by omega
                    have hVN : V < N := by have := HIN.out; omega
                    have hwV := HWA.out V hVN
                    have hwI := HWA.out I HIN.out
                    have hf := HFAR.out V (by omega) (by have := HLT.out; omega)
                    have hPP : pb C R I = P := HPE.out.symm
                    rw [hPP] at hwI
                    have hp2 : pb C R V < N := by rw [HN.out]; exact pb_lt2 hR0 (by rw [← HN.out]; exact hVN)
                    obtain ⟨P2, hP2⟩ : ∃ P2, P2 = pb C R V := ⟨_, rfl⟩
                    rw [← hP2] at hwV hf hp2
                    unfold dfN at hf
                    have g1 := K9.out.c I _ hwI
                    have g2 := K9.out.c V _ hwV
                    have hpn := HPN.out
                    have i1 : (0 : Int) ≤ (I : Int) := by omega
                    have i2 : (I : Int) < (N : Int) := by have := HIN.out; omega
                    have i3 : (0 : Int) ≤ (V : Int) := by omega
                    have i4 : (V : Int) < (N : Int) := by omega
                    have wv : IntKind.i64.wrap ((V : Int) + 1) = (V : Int) + 1 := IntWalk.i64_in _ (by omega)
                    have wp : IntKind.i64.wrap ((P : Int) - (P2 : Int)) = (P : Int) - (P2 : Int) := IntWalk.i64_in _ (by omega)
                    have wp2 : IntKind.i64.wrap ((P2 : Int) - (P : Int)) = (P2 : Int) - (P : Int) := IntWalk.i64_in _ (by omega)
                    have HVE := Lib.hid hV
                    have HL2 := Lib.hid hlt2
                    by_cases hd : (P : Int) - (P2 : Int) < L
                    · have hd2 : ¬ (P2 : Int) - (P : Int) < L := by split at hf <;> omega
                      have hdB : decide ((P : Int) - (P2 : Int) < L) = true := decide_eq_true hd
                      have hdC : decide ((P2 : Int) - (P : Int) < L) = false := decide_eq_false hd2
                      clear hf hie hV hlt2 hwV hwI hPP hP2 hp2 hpn hVN
                      go_wp2_with fail
                      go_quiet (fail)
                      go_wp2_with fail
                      go_roundw
                      case rel => exact ⟨s + 1, by have := HL2.out; omega, by rw [HVE.out]; first | rfl | go_num, J9.out.drewN _, K9.out.drewN _, below_dn B9.out _⟩
                      case measure => simp [intOf]; omega
                    · have hdB : decide ((P : Int) - (P2 : Int) < L) = false := decide_eq_false hd
                      clear hf hie hV hlt2 hwV hwI hPP hP2 hp2 hpn hVN
                      go_wp2_with fail
                      go_quiet (fail)
                      go_wp2_with fail
                      go_roundw
                      case rel => exact ⟨s + 1, by have := HL2.out; omega, by rw [HVE.out]; first | rfl | go_num, J9.out.drewN _, K9.out.drewN _, below_dn B9.out _⟩
                      case measure => simp [intOf]; omega
                  · obtain rfl : t = s := by omega
                    obtain rfl : I = V := by omega
                    have hnl3 : ¬ (I : Int) < (I : Int) := by omega
                    have HIS2 := HIS.out
                    clear hie hV hlt2
                    go_wp2_with fail
                    go_roundw
                    case rel => exact ⟨t + 1, by have := HLT.out; omega, by rw [HIE.out]; first | rfl | go_num, J9.out, K9.out, B9.out⟩
                    case measure => simp [intOf]; omega
              · obtain rfl : Bu = t := by omega
                obtain rfl : S = I := by omega
                have hnl2 : ¬ (S : Int) < (S : Int) := by omega
                go_wp2_with fail
                go_ret
                exact ⟨rfl, B9.out⟩
end Go.Proofs.YtnpigefbdadjfaaDoor
