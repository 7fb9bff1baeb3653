/- The program's nextMask and masksOf: each mask of a length with so many bits 1. -/
import Derived.RangeFuncNested
import Derived.RangeFuncBound
import Derived.RangeFuncCalls
import Derived.RangeFuncLeaves
import Derived.Shelf.Abstract
import Derived.Shelf.RegionOpen
import Derived.WalkKit
import Derived.OwnWalkIn
import Derived.TacticsInMore
import Derived.LoopNIn
import Derived.LoopIn
import Derived.Test.YtkgfmpkpeipddabDoorNxP
import Derived.Test.YtkgfmpkpeipddabDoorDvm
namespace Go.Proofs.YtkgfmpkpeipddabDoor
open Go Go.RowKit Go.Shelf
set_option linter.unusedVariables false
attribute [local go_sem] Oper.semAt_some

set_option maxHeartbeats 1000000 in
theorem nextMask_any (s A k m : Nat) (W : World) (hm : m = (A * 2 ^ (s + 2) + (2 ^ (s + 1) - 1)) * 2 ^ k) (h0 : 0 < m) (h : m < 4294967296) :
    Calls Tryd.prog 65 #[.int .u64 (m : Int)] W fun e W' => e = .returned (.int .u64 ((nxM k s A : Nat) : Int)) ∧ W = W' := by
  have e1 : IntKind.u64.wrap (-(m : Int)) = ((18446744073709551616 - m : Nat) : Int) := by
    rw [show IntKind.u64.wrap (-(m : Int)) = (-(m : Int)) % 18446744073709551616 by simp [IntKind.wrap, IntKind.bits, IntKind.signed]]
    omega
  obtain ⟨b1, b2, b3⟩ := nx_bd s A k m hm
  have e2 : bits .and .u64 (m : Int) ((18446744073709551616 - m : Nat) : Int) = ((2 ^ k : Nat) : Int) := by rw [u64_and_nat _ _ (by omega) (by omega), nx_low s A k m hm h]
  have e4 : bits .xor .u64 (m : Int) ((m + 2 ^ k : Nat) : Int) = (((2 ^ (s + 2) - 1) * 2 ^ k : Nat) : Int) := by rw [u64_xor_nat _ _ (by omega) (by omega), nx_xor s A k m hm]
  have hx : (2 ^ (s + 2) - 1) * 2 ^ k < 2 ^ 64 := by rw [← nx_xor s A k m hm]; exact Nat.xor_lt_two_pow (by omega) (by omega)
  have e6 : bits .or .u64 ((m + 2 ^ k : Nat) : Int) ((2 ^ s - 1 : Nat) : Int) = ((nxM k s A : Nat) : Int) := by rw [u64_or_nat _ _ (by omega) (by omega), nx_or s A k m hm]
  have hen := nx_end s k
  have hk := Nat.two_pow_pos k
  generalize nxM k s A = X at *
  generalize (2 ^ (s + 2) - 1) * 2 ^ k = Y at *
  generalize 2 ^ s - 1 = Z at *
  obtain ⟨V, hV⟩ : ∃ V, V = m + 2 ^ k := ⟨_, rfl⟩
  rw [← hV] at e4 e6
  generalize 2 ^ k = K at *
  have e3 : IntKind.u64.wrap ((m : Int) + (K : Int)) = (V : Int) := by rw [hV, ← u64_w (m + K) (by omega)]; congr 1
  obtain ⟨Q, hQ⟩ : ∃ Q, Q = Y / K := ⟨_, rfl⟩
  have e5 : (Y : Int).tdiv (K : Int) = (Q : Int) := by rw [hQ]; rfl
  have e5' : (Y : Int) / (K : Int) = (Q : Int) := by rw [hQ]; rfl
  have hQb : Q ≤ Y := by rw [hQ]; exact Nat.div_le_self _ _
  have e7 : IntKind.u64.wrap (Q : Int) = (Q : Int) := u64_w Q (by omega)
  have hQ4 : (Q : Int) / 4 = (Z : Int) := by rw [← hQ] at hen; omega
  have hK0 : ¬ (K : Int) = 0 := by omega
  have hK0' : ((K : Int) == 0) = false := by simpa using hK0
  obtain ⟨N, hN⟩ : ∃ N, N = 18446744073709551616 - m := ⟨_, rfl⟩
  rw [← hN] at e1 e2
  clear hm b1 b2 b3 hx hen hV hQ hQb hN hk h0 h
  go_enter Tryd.func65, Tryd.ntmps65
  go_wp2_with fail
  go_ret
  exact ⟨rfl, rfl⟩

/-- masksOf makes its closure. -/
theorem masksOf_any (L c : Int) (w : World) :
    Calls Tryd.prog 60 #[.int .i64 L, .int .i64 c] w fun e w' => e = .returned (.func (.func 64) #[] #[.pointer (some ⟨w.heap.size + 1, 0, none⟩), .pointer (some ⟨w.heap.size, 0, none⟩)]) ∧ w' = (w.alloc (.cells #[.int .i64 L] 2)).alloc (.cells #[.int .i64 c] 2) := by
  go_enter Tryd.func60, Tryd.ntmps60
  go_wp2_with fail
  go_ret
  exact ⟨by simp, rfl⟩
/-- A mask of at most 32 bits. -/
abbrev Mk32 := { m : Nat // m < 4294967296 }
abbrev mkEnc (x : Mk32) : Array Value := #[.int .u64 ((x.1 : Nat) : Int)]
/-- How many masks are missed. -/
def cz (p d : Nat) (l : List Mk32) : Nat := (l.filter (fun x => decide (rd p d x.1 = 0))).length
theorem cz_snoc (p d : Nat) (l : List Mk32) (x : Mk32) : cz p d (l ++ [x]) = cz p d l + if rd p d x.1 = 0 then 1 else 0 := by
  unfold cz
  rw [List.filter_append, List.length_append]
  by_cases h : rd p d x.1 = 0
  · rw [if_pos h]; simp [List.filter, h]
  · rw [if_neg h]; simp [List.filter, h]
theorem cz_le (p d : Nat) (l : List Mk32) : cz p d l ≤ l.length := List.length_filter_le _ _
/-- What a round keeps: two blocks. -/
def KpS (S : Nat) (W W' : World) : Prop := S + 1 < W'.heap.size ∧ W'.heap[S]? = W.heap[S]? ∧ W'.heap[S + 1]? = W.heap[S + 1]?
theorem kpS_t {S : Nat} {A B C : World} (h : KpS S A B) (k : KpS S B C) : KpS S A C := ⟨k.1, k.2.1.trans h.2.1, k.2.2.trans h.2.2⟩
theorem kpS_b {S : Nat} {w : World} (hS : S + 1 < w.heap.size) (W : World) (l : Nat) (o o' : Obj) (hl : w.heap.size ≤ l) (h : W.heap[l]? = some o) (h1 : o.isCells = false) (h2 : o.isWalk = false) : KpS S W (W.putObj l o') :=
  ⟨by have := (Array.getElem?_eq_some_iff.1 h).1; simp; omega, World.putObj_heap_other (by omega), World.putObj_heap_other (by omega)⟩
theorem Bk.at_ {W W' : World} {b : Nat} {cs : List Value} (h : Bk W b cs) (e : W'.heap[b]? = W.heap[b]?) (hs : b < W'.heap.size) : Bk W' b cs :=
  ⟨fun i x hx => (World.cell?_of_block (a := ⟨b, i, none⟩) e).trans (h.1 i x hx), fun i hi => (World.frozen?_of_block (a := ⟨b, i, none⟩) e).trans (h.2.1 i hi), hs⟩
theorem shr_zero {m L : Nat} : m / 2 ^ L = 0 ↔ m < 2 ^ L := by
  rw [Nat.div_eq_zero_iff]
  have := Nat.two_pow_pos L
  omega

set_option maxRecDepth 100000 in
set_option maxHeartbeats 2000000 in
theorem masks_in (n : Nat) (hn : 1 ≤ n) (p d L c S l : Nat) (hL : L ≤ 32) (hc1 : 1 ≤ c) (hc : c ≤ 4)
    (J Jx : List Mk32 → World → Prop) (W : World)
    (hY : ∀ pre x W1, J pre W1 → pre.length < 4294967296 → YieldAt Fence.wide (n - 1) Tryd.prog l (mkEnc x) W1 fun e W' =>
      (e = .returned (.bool true) ∧ J (pre ++ [x]) W' ∧ KpS S W1 W') ∨ (e = .returned (.bool false) ∧ Jx (pre ++ [x]) W'))
    (k1 : Bk W S [.int .i64 (L : Int)]) (k2 : Bk W (S + 1) [.int .i64 (c : Int)]) (h0 : J [] W) :
    CallsIn Fence.wide n Tryd.prog 64 #[.func (.yield l) #[] #[], .pointer (some ⟨S + 1, 0, none⟩), .pointer (some ⟨S, 0, none⟩)] W fun e W' => (∃ v, e = .returned v) ∧
      ((∃ ys, cz p d ys = cmN p d L c ∧ J ys W') ∨ (∃ pre, True ∧ Jx pre W')) := by
  have HY := Lib.hid hY
  have H0 := Lib.hid h0
  have HK1 := Lib.hid k1
  have HK2 := Lib.hid k2
  have q2 := k2.c 0 _ rfl
  have hL2 : 2 ^ L ≤ 4294967296 := by have := Nat.pow_le_pow_right (show 0 < 2 by omega) hL; omega
  have hc2 : 2 ^ c ≤ 16 := by have := Nat.pow_le_pow_right (show 0 < 2 by omega) hc; omega
  have hc3 : 2 ≤ 2 ^ c := by have := Nat.pow_le_pow_right (show 0 < 2 by omega) hc1; omega
  have e1 : IntKind.u64.wrap (2 ^ c : Int) = ((2 ^ c : Nat) : Int) := by
    rw [← u64_w (2 ^ c) (by omega)]; congr 1
  have HST := Lib.hid (hits_start p d c L)
  have HPC : Hid (pc (2 ^ c - 1) = c) := pc_ones c
  have hcm : min c 64 = c := by omega
  have hLm : min L 64 = L := by omega
  have hc0 : (0 : Int) ≤ (c : Int) := by omega
  have hL0 : (0 : Int) ≤ (L : Int) := by omega
  obtain ⟨P, hP⟩ : ∃ P, P = 2 ^ c := ⟨_, rfl⟩
  rw [← hP] at e1 hc2 hc3 HST HPC
  obtain ⟨M, hM⟩ : ∃ M, M = P - 1 := ⟨_, rfl⟩
  rw [← hM] at HST HPC
  have e2 : IntKind.u64.wrap ((P : Int) - 1) = (M : Int) := by rw [← u64_w M (by omega)]; congr 1; omega
  have hM1 : 1 ≤ M := by omega
  have hM2 : M ≤ 15 := by omega
  clear hY h0 k1 k2 hP hM hc2 hc3 hc1 hL hc
  refine callsIn_of_wp Tryd.func64 rfl trivial ?_ rfl
  simp only [Tryd.ntmps64, List.size_toArray, List.length_cons, List.length_nil, Nat.reduceAdd, Nat.reduceSub, Array.replicate_succ, Array.replicate_zero, List.push_toArray, List.append_toArray, List.nil_append, List.cons_append]
  gi_wp2_with fail
  gi_loopw [4] (fun i wr => ∃ (pre : List Mk32) (m : Nat), i = .int .u64 m ∧ 0 < m ∧ pc m = c ∧ pre.length ≤ m ∧ m < 12884901888 ∧ cz p d pre = hits (hitB p d c) (min m (2 ^ L)) ∧ J pre wr ∧ Bk wr S [.int .i64 (L : Int)] ∧ Bk wr (S + 1) [.int .i64 (c : Int)])
    (fun i _ => 1099511627776 - (intOf i).toNat)
  case atStart => exact ⟨[], M, rfl, hM1, HPC.out, by simp, by omega, HST.out.symm, H0.out, HK1.out, HK2.out⟩
  case round =>
    obtain ⟨pre, m, rfl, m0, mc, ml, mb, mz, hj, r1, r2⟩ := hrel
    have t1 := r1.c 0 _ rfl
    have HR1 := Lib.hid r1
    have HR2 := Lib.hid r2
    have HJ := Lib.hid hj
    have HMC := Lib.hid mc
    have HML := Lib.hid ml
    have HMZ := Lib.hid mz
    have HMB := Lib.hid mb
    clear r1 r2 hj mc ml mz H0 HK1 HK2 q2 HST HPC e1 e2
    obtain ⟨q, hq⟩ : ∃ q, q = m / 2 ^ L := ⟨_, rfl⟩
    have hqe : (m : Int) / 2 ^ L = (q : Int) := by rw [hq, Int.natCast_ediv]; congr 1
    by_cases hlt : m < 2 ^ L
    · have hq0 : q = 0 := by rw [hq]; exact shr_zero.2 hlt
      subst hq0
      obtain ⟨k, s, A, hm⟩ := form m m0
      have hm32 : m < 4294967296 := by omega
      have HN := Lib.hid (fun W => nextMask_any s A k m W hm m0 hm32)
      have hbd := (nx_bd s A k m hm).2.2
      have hgt := nxM_gt k s A
      rw [← hm] at hgt
      have HS := Lib.hid (hits_step p d c L k s A m hm HMC.out hlt)
      have HP : Hid (pc (nxM k s A) = c) := by show _ = _; rw [nxM_pc, ← hm]; exact HMC.out
      obtain ⟨fn, tmps, assign, body, hy, hR⟩ := HY.out pre ⟨m, hm32⟩ wr HJ.out (by have := HML.out; omega)
      dsimp only [mkEnc] at hy
      have HRR := Lib.hid hR
      have HZS := Lib.hid (cz_snoc p d pre ⟨m, hm32⟩)
      clear hR hm hq
      generalize nxM k s A = X at *
      rw [show ((0 : Nat) : Int) = 0 from rfl] at hqe
      gi_wp2_with fail
      refine HRR.out.mono ?_
      rintro e W5 (⟨rfl, hj5, hk5⟩ | ⟨rfl, hjx5⟩)
      · have HJ5 := Lib.hid hj5
        have HA := Lib.hid (HR1.out.at_ hk5.2.1 (by have := hk5.1; omega))
        have HB := Lib.hid (HR2.out.at_ hk5.2.2 hk5.1)
        clear hj5 hk5 HRR hy t1
        gi_wp2_with fail
        refine ⟨trivial, (callsIn_wide.2 (HN.out _)).mono ?_⟩; rintro e W6 ⟨rfl, rfl⟩
        gi_wp2_with fail
        go_roundw
        case rel => exact ⟨pre ++ [⟨m, hm32⟩], X, rfl, by omega, HP.out, by have := HML.out; simp; omega, by omega, by rw [HZS.out, HMZ.out, HS.out], HJ5.out, HA.out, HB.out⟩
        case measure => simp [intOf]; omega
      · have HJ5 := Lib.hid hjx5
        clear hjx5 HRR hy
        gi_wp2_with fail
        refine bodyPost_ret (results_none rfl _ _ _) rfl ?_
        exact ⟨⟨_, rfl⟩, .inr ⟨_, trivial, HJ5.out⟩⟩
    · have hq0 : 0 < q := by
        rcases Nat.eq_zero_or_pos q with h | h
        · exact absurd (shr_zero.1 (by rw [← hq]; exact h)) hlt
        · exact h
      have hqn : ((q : Int) == 0) = false := by simpa using (show ¬ (q : Int) = 0 by omega)
      have hfin : Hid (cz p d pre = cmN p d L c) := by show _ = _; rw [HMZ.out, show min m (2 ^ L) = 2 ^ L by omega]; rfl
      clear hq hlt hL2
      gi_wp2_with fail
      go_end0
      exact ⟨⟨_, rfl⟩, .inl ⟨_, hfin.out, HJ.out⟩⟩

theorem masks_stops (n : Nat) (hn : 1 ≤ n) (p d L c S : Nat) (hL : L ≤ 32) (hc1 : 1 ≤ c) (hc : c ≤ 4) (w : World)
    (k1 : Bk w S [.int .i64 (L : Int)]) (k2 : Bk w (S + 1) [.int .i64 (c : Int)]) :
    SeqStopsK Fence.wide n Tryd.prog 64 #[.pointer (some ⟨S + 1, 0, none⟩), .pointer (some ⟨S, 0, none⟩)] mkEnc (KpS S)
      (fun ys => cz p d ys = cmN p d L c) (fun _ => True) 4294967296 w := fun l J Jx W hW hJ hJx hY h0 =>
  masks_in n hn p d L c S l hL hc1 hc J Jx W hY (k1.keep hW) (k2.keep hW) h0
end Go.Proofs.YtkgfmpkpeipddabDoor
