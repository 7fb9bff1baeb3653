/- slices.Chunk over bytes: the contract of its iterator. -/
import Derived.RangeFuncNested
import Derived.RangeFuncBound
import Derived.RangeFuncCalls
import Derived.RangeFuncLeaves
import Derived.Shelf.Abstract
import Derived.Shelf.RegionOpen
import Derived.WalkKit
import Derived.OwnWalkIn
import Derived.TacticsInMore
import Derived.LoopNIn
import Derived.LoopIn
import Derived.Test.YtcihogbkfpcfjaaBly
import Derived.Test.YtcihogbkfpcfjaaMst
namespace Go.Proofs.Ytcihogbkfpcfjaa
open Go Go.RowKit Go.Shelf
set_option linter.unusedVariables false
attribute [local go_sem] Oper.semAt_some

/-- Chunk makes its closure. -/
theorem chunk_any (A : Option Addr) (n c T : Nat) (w : World) (hT : 1 ≤ T) :
    Calls Try.prog 67 #[.slice A n c, .int .i64 T] w fun e w' => e = .returned (.func (.func 84) #[] #[.pointer (some ⟨w.heap.size, 0, none⟩), .pointer (some ⟨w.heap.size + 1, 0, none⟩)]) ∧ w' = (w.alloc (.cells #[.slice A n c] 37)).alloc (.cells #[.int .i64 T] 3) := by
  have h1 : ¬ ((T : Int) < 1) := by omega
  go_enter Try.func67, Try.ntmps67
  go_wp2_with fail
  go_ret
  exact ⟨rfl, rfl⟩

/-- A block's number. -/
abbrev BN (K : Nat) := { j : Nat // j < K }
abbrev bnEnc (R T : Nat) {K : Nat} (x : BN K) : Array Value := #[.slice (some ⟨R, x.1 * T, none⟩) T T]
/-- The words of a run: all blocks below k in turn. -/
def inTurn {K : Nat} (pre : List (BN K)) (k : Nat) : Prop := pre.map (·.1) = List.range k
theorem inTurn_next {K : Nat} {pre : List (BN K)} {k : Nat} (h : inTurn pre k) (hk : k < K) : inTurn (pre ++ [⟨k, hk⟩]) (k + 1) := by
  unfold inTurn at *
  rw [List.map_append, h, List.range_succ]; rfl
theorem inTurn_len {K : Nat} {pre : List (BN K)} {k : Nat} (h : inTurn pre k) : pre.length = k := by
  unfold inTurn at h
  have := congrArg List.length h
  simpa using this

set_option maxRecDepth 100000 in
set_option maxHeartbeats 2000000 in
theorem chunk_in (n : Nat) (hn : 1 ≤ n) (l S lo b R N c T K : Nat) (hT : 1 ≤ T) (hK : N = K * T) (hN : N ≤ 400) (hc : N ≤ c) (hS : S + 2 ≤ lo) (hSb : S ≠ b) (hSb2 : S + 1 ≠ b) (w0 : World)
    (J Jx : List (BN K) → World → Prop) (W : World) (hJ : AbidesFrom W.heap.size J)
    (hY : ∀ pre x W1, J pre W1 → pre.length < K → YieldAt Fence.wide (n - 1) Try.prog l (bnEnc R T x) W1 fun e W' =>
      (e = .returned (.bool true) ∧ J (pre ++ [x]) W' ∧ Chg lo b W1 W') ∨ (e = .returned (.bool false) ∧ Jx (pre ++ [x]) W'))
    (hB1 : Blk W S 37 [.slice (some ⟨R, 0, none⟩) N c]) (hB2 : Blk W (S + 1) 3 [.int .i64 T]) (h0 : J [] W) :
    CallsIn Fence.wide n Try.prog 84 #[.func (.yield l) #[] #[], .pointer (some ⟨S, 0, none⟩), .pointer (some ⟨S + 1, 0, none⟩)] W fun e W' => (∃ v, e = .returned v) ∧
      ((∃ ys, inTurn ys K ∧ J ys W') ∨ (∃ pre, True ∧ Jx pre W')) := by
  have HY := Lib.hid hY
  have HJ0 := Lib.hid h0
  have HJD : Hid (∀ pre wr, J pre wr → J pre wr.drew) := by show ∀ _ _, _; intro pre wr h; exact hJ pre wr _ none h ⟨rfl, rfl, rfl, Nat.le_refl _, fun _ _ _ => rfl⟩ (fun r e => by cases e)
  clear hY h0 hJ
  have HB1 : Hid (∀ wr, Chg lo b W wr → wr.cell? ⟨S, 0, none⟩ = some (.slice (some ⟨R, 0, none⟩) N c) ∧ wr.cell? ⟨S + 1, 0, none⟩ = some (.int .i64 T)) := by
    show ∀ _, _
    intro wr h
    exact ⟨Lib.cell_of_heap (hB1.chg h (by omega) hSb) 0, Lib.cell_of_heap (hB2.chg h (by omega) hSb2) 0⟩
  clear hB1 hB2 hS hSb hSb2
  have hin1 : ∀ k, k < K → k * T + T ≤ N := by
    intro k hk
    have := Nat.mul_le_mul_right T (show k + 1 ≤ K by omega)
    rw [Nat.succ_mul] at this; omega
  have HIN := Lib.hid hin1
  have HEND : Hid (∀ k, k ≤ K → ¬ k < K → k * T = N) := by
    show ∀ _, _
    intro k h1 h2
    obtain rfl : k = K := by omega
    exact hK.symm
  clear hin1 hK
  have hmx : Try.prog.follows .mixedOrders = true := by kernel_rfl
  obtain ⟨q1, q2⟩ := HB1.out W (Chg.of_below (Below.refl lo _) (Nat.le_refl _))
  have HC0 : Hid (Chg lo b W W) := Chg.of_below (Below.refl lo _) (Nat.le_refl _)
  refine callsIn_of_wp Try.func84 rfl trivial ?_ rfl
  simp only [Try.ntmps84, List.size_toArray, List.length_cons, List.length_nil, Nat.reduceAdd, Nat.reduceSub, Array.replicate_succ, Array.replicate_zero, List.push_toArray, List.append_toArray, List.nil_append, List.cons_append]
  gi_wp2_with fail
  clear q1 q2
  gi_loopw [4] (fun i wr => ∃ (k I : Nat) (pre : List (BN K)), k ≤ K ∧ I = k * T ∧ i = .int .i64 I ∧ inTurn pre k ∧ J pre wr ∧ Chg lo b W wr) (fun i _ => N - (intOf i).toNat)
  case atStart => exact ⟨0, 0, [], Nat.zero_le _, by omega, rfl, rfl, HJ0.out, HC0.out⟩
  case round =>
    obtain ⟨k, I, pre, hk, hI, rfl, ht, hj, hch⟩ := hrel
    obtain ⟨q1, q2⟩ := HB1.out wr hch
    have HCH := Lib.hid hch
    have HT := Lib.hid ht
    have HJ := Lib.hid hj
    clear hch ht hj HJ0 HC0
    by_cases hlt : k < K
    · have hh := HIN.out k hlt
      rw [← hI] at hh
      have hN1 : Hid (I + T = (k + 1) * T) := by show _ = _; rw [Nat.succ_mul, hI]
      have hyy := HY.out pre ⟨k, hlt⟩ wr.drew (HJD.out _ _ HJ.out) (by rw [inTurn_len HT.out]; exact hlt)
      dsimp only [bnEnc] at hyy
      rw [← hI] at hyy
      obtain ⟨fn, tmps, assign, body, hy, hR⟩ := hyy
      have HRR := Lib.hid hR
      have i1 : (I : Int) < (N : Int) := by omega
      have i2 : (0 : Int) ≤ (I : Int) := by omega
      have i3 : (I : Int) ≤ (N : Int) := by omega
      have i4 : (I : Int) + (T : Int) ≤ (c : Int) := by omega
      have i6 : (I : Int) ≤ (I : Int) + (T : Int) := by omega
      have i5 : ((I : Int) + (T : Int)).toNat = I + T := by omega
      have w1 : IntKind.i64.wrap ((I : Int) + (T : Int)) = (I : Int) + (T : Int) := IntWalk.i64_in _ (by omega)
      have m1 : min (T : Int) ((N - I : Nat) : Int) = (T : Int) := by omega
      have hcI : ¬ c = I := by omega
      have HCD : Hid (Chg lo b W wr.drew) := HCH.out.trans (Chg.of_below (Below.refl lo _).drew (Nat.le_refl _))
      clear hR hI HIN HEND HY HJD HCH
      gi_wp2_with fail
      gi_region_with_o (fail)
      all_goals gi_wp2_with fail
      all_goals (
        refine HRR.out.mono ?_
        rintro e W5 (⟨rfl, hj5, hk5⟩ | ⟨rfl, hjx5⟩))
      all_goals first
        | (have HJ5 := Lib.hid hj5
           have HK5 := Lib.hid (HCD.out.trans hk5)
           obtain ⟨q3, q4⟩ := HB1.out W5 HK5.out
           clear hj5 hk5 HRR hy q1 q2 HCD
           gi_wp2_with fail
           go_roundw
           case rel => exact ⟨k + 1, I + T, _, by omega, hN1.out, by go_num, inTurn_next HT.out hlt, HJ5.out, HK5.out⟩
           case measure => simp [intOf]; omega)
        | (have HJ5 := Lib.hid hjx5
           clear hjx5 HRR hy
           gi_wp2_with fail
           refine bodyPost_ret (results_none rfl _ _ _) rfl ?_
           exact ⟨⟨_, rfl⟩, .inr ⟨_, trivial, HJ5.out⟩⟩)
    · have hh := HEND.out k hk hlt
      rw [← hI] at hh
      obtain rfl : k = K := by omega
      have hnl : ¬ (I : Int) < (N : Int) := by omega
      clear HIN HEND HY
      gi_wp2_with fail
      go_end0
      exact ⟨⟨_, rfl⟩, .inl ⟨pre, HT.out, HJ.out⟩⟩
end Go.Proofs.Ytcihogbkfpcfjaa
