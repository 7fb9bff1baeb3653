/- slices.Chunk over numbers: the contract of its iterator; a last block may be shorter. -/
import Derived.RangeFuncNested
import Derived.RangeFuncBound
import Derived.RangeFuncCalls
import Derived.RangeFuncLeaves
import Derived.Shelf.Abstract
import Derived.Shelf.RegionOpen
import Derived.WalkKit
import Derived.OwnWalkIn
import Derived.TacticsInMore
import Derived.LoopNIn
import Derived.LoopIn
import Derived.Test.YtmhdjimdhcephaaBly
import Derived.Test.YtmhdjimdhcephaaLvC
namespace Go.Proofs.Ytmhdjimdhcephaa
open Go Go.RowKit Go.Shelf
set_option linter.unusedVariables false
attribute [local go_sem] Oper.semAt_some

theorem chunkI_any (A : Option Addr) (n c T : Nat) (w : World) (hT : 1 ≤ T) :
    Calls Try.prog 64 #[.slice A n c, .int .i64 T] w fun e w' => e = .returned (.func (.func 92) #[] #[.pointer (some ⟨w.heap.size, 0, none⟩), .pointer (some ⟨w.heap.size + 1, 0, none⟩)]) ∧ w' = (w.alloc (.cells #[.slice A n c] 22)).alloc (.cells #[.int .i64 T] 3) := by
  have h1 : ¬ ((T : Int) < 1) := by omega
  go_enter Try.func64, Try.ntmps64
  go_wp2_with fail
  go_ret
  exact ⟨rfl, rfl⟩
/-- What keeps the iterator's two boxes. -/
structure Kp (S : Nat) (w w' : World) : Prop where
  os : w'.os = w.os
  tape : w'.tape = w.tape
  output : w'.output = w.output
  size : w.heap.size ≤ w'.heap.size
  block : ∀ k, S ≤ k → k < S + 2 → w'.heap[k]? = w.heap[k]?
theorem Kp.trans {S : Nat} {w w1 w2 : World} (h : Kp S w w1) (k : Kp S w1 w2) : Kp S w w2 :=
  ⟨k.os.trans h.os, k.tape.trans h.tape, k.output.trans h.output, Nat.le_trans h.size k.size, fun j hj hn => (k.block j hj hn).trans (h.block j hj hn)⟩
theorem Kp.of_below {S B : Nat} {w w' : World} (hb : Below B w w') (hl : S + 2 ≤ B) : Kp S w w' := ⟨hb.os, hb.tape, hb.output, hb.size, fun j hj hn => hb.block j (by omega)⟩
theorem Kp.of_gb {S l : Nat} {w w' : World} (hg : w.grownBy w' (some l)) (hl : l < S ∨ S + 2 ≤ l) (hs : S + 2 ≤ w.heap.size) : Kp S w w' := ⟨hg.os, hg.tape, hg.output, hg.size, fun j h1 h2 => hg.block j (by omega) (fun x => by injection x with x; omega)⟩
theorem Kp.of_chg {S lo b : Nat} {w w' : World} (h : Chg lo b w w') (hl : S + 2 ≤ lo) (hb : b < S ∨ S + 2 ≤ b) : Kp S w w' := ⟨h.os, h.tape, h.output, h.size, fun j h1 h2 => h.block j (by omega) (by omega)⟩

/-- A block's number. -/
abbrev BN (K : Nat) := { j : Nat // j < K }
abbrev bnE (R o N T : Nat) {K : Nat} (x : BN K) : Array Value := #[.slice (some ⟨R, o + x.1 * T, none⟩) (min T (N - x.1 * T)) (min T (N - x.1 * T))]
/-- The words of a run: all blocks below k in turn. -/
def inTurn {K : Nat} (pre : List (BN K)) (k : Nat) : Prop := pre.map (·.1) = List.range k
theorem inTurn_next {K : Nat} {pre : List (BN K)} {k : Nat} (h : inTurn pre k) (hk : k < K) : inTurn (pre ++ [⟨k, hk⟩]) (k + 1) := by
  unfold inTurn at *
  rw [List.map_append, h, List.range_succ]; rfl
theorem inTurn_len {K : Nat} {pre : List (BN K)} {k : Nat} (h : inTurn pre k) : pre.length = k := by
  unfold inTurn at h
  have := congrArg List.length h
  simpa using this

set_option maxRecDepth 100000 in
set_option maxHeartbeats 4000000 in
theorem chunkI_in (n : Nat) (hn : 1 ≤ n) (l S R o N c T K : Nat) (A : Option Addr) (hT : 1 ≤ T) (hT2 : T ≤ 2) (hA : 0 < N → A = some ⟨R, o, none⟩) (hK1 : ∀ k, k < K → k * T < N) (hK2 : ¬ K * T < N) (hK3 : K ≤ 800) (hN : N ≤ 800) (hc : N ≤ c) (w0 : World)
    (J Jx : List (BN K) → World → Prop) (W : World) (hJ : AbidesFrom W.heap.size J)
    (hY : ∀ pre x W1, J pre W1 → pre.length < K → YieldAt Fence.wide (n - 1) Try.prog l (bnE R o N T x) W1 fun e W' =>
      (e = .returned (.bool true) ∧ J (pre ++ [x]) W' ∧ Kp S W1 W') ∨ (e = .returned (.bool false) ∧ Jx (pre ++ [x]) W'))
    (hS : S + 2 ≤ W.heap.size) (hB1 : Blk W S 22 [.slice A N c]) (hB2 : Blk W (S + 1) 3 [.int .i64 T]) (h0 : J [] W) :
    CallsIn Fence.wide n Try.prog 92 #[.func (.yield l) #[] #[], .pointer (some ⟨S, 0, none⟩), .pointer (some ⟨S + 1, 0, none⟩)] W fun e W' => (∃ v, e = .returned v) ∧
      ((∃ ys, inTurn ys K ∧ J ys W') ∨ (∃ pre, True ∧ Jx pre W')) := by
  have HY := Lib.hid hY
  have HJ0 := Lib.hid h0
  have HA := Lib.hid hA
  have HJD : Hid (∀ pre wr, J pre wr → J pre wr.drew) := by show ∀ _ _, _; intro pre wr h; exact hJ pre wr _ none h ⟨rfl, rfl, rfl, Nat.le_refl _, fun _ _ _ => rfl⟩ (fun r e => by cases e)
  clear hY h0 hJ hA
  have HB1 : Hid (∀ wr, Kp S W wr → wr.cell? ⟨S, 0, none⟩ = some (.slice A N c) ∧ wr.cell? ⟨S + 1, 0, none⟩ = some (.int .i64 T)) := by
    show ∀ _, _
    intro wr h
    exact ⟨Lib.cell_of_heap ((h.block S (by omega) (by omega)).trans hB1) 0, Lib.cell_of_heap ((h.block (S + 1) (by omega) (by omega)).trans hB2) 0⟩
  have HSS := Lib.hid hS
  clear hB1 hB2 hS
  have HIN := Lib.hid hK1
  have HEND := Lib.hid hK2
  clear hK1 hK2
  have hmx : Try.prog.follows .mixedOrders = true := by kernel_rfl
  have hC0 : Kp S W W := Kp.of_below (Below.refl (S + 2) _) (Nat.le_refl _)
  obtain ⟨q1, q2⟩ := HB1.out W hC0
  have HC0 := Lib.hid hC0
  clear hC0
  refine callsIn_of_wp Try.func92 rfl trivial ?_ rfl
  simp only [Try.ntmps92, List.size_toArray, List.length_cons, List.length_nil, Nat.reduceAdd, Nat.reduceSub, Array.replicate_succ, Array.replicate_zero, List.push_toArray, List.append_toArray, List.nil_append, List.cons_append]
  gi_wp2_with fail
  clear q1 q2
  gi_loopw [4] (fun i wr => ∃ (k I : Nat) (pre : List (BN K)), k ≤ K ∧ I = k * T ∧ i = .int .i64 I ∧ inTurn pre k ∧ J pre wr ∧ Kp S W wr) (fun i _ => N - (intOf i).toNat)
  case atStart => exact ⟨0, 0, [], Nat.zero_le _, by omega, rfl, rfl, HJ0.out, HC0.out⟩
  case round =>
    obtain ⟨k, I, pre, hk, hI, rfl, ht, hj, hch⟩ := hrel
    obtain ⟨q1, q2⟩ := HB1.out wr hch
    have HCH := Lib.hid hch
    have HT := Lib.hid ht
    have HJ := Lib.hid hj
    have hs2 := Nat.le_trans HSS.out hch.size
    clear hch ht hj HJ0 HC0
    by_cases hlt : k < K
    · have hh := HIN.out k hlt
      rw [← hI] at hh
      have hN1 : Hid (I + T = (k + 1) * T) := by show _ = _; rw [Nat.succ_mul, hI]
      have hyy := HY.out pre ⟨k, hlt⟩ wr.drew (HJD.out _ _ HJ.out) (by rw [inTurn_len HT.out]; exact hlt)
      dsimp only [bnE] at hyy
      rw [← hI] at hyy
      have hAA := HA.out (by omega)
      subst hAA
      obtain ⟨E, hE⟩ : ∃ E, E = min T (N - I) := ⟨_, rfl⟩
      rw [← hE] at hyy
      have hE1 : 1 ≤ E := by omega
      have hE2 : I + E ≤ N := by omega
      obtain ⟨fn, tmps, assign, body, hy, hR⟩ := hyy
      have HRR := Lib.hid hR
      have i1 : (I : Int) < (N : Int) := by omega
      have i2 : (0 : Int) ≤ (I : Int) := by omega
      have i3 : (I : Int) ≤ (N : Int) := by omega
      have i4 : (I : Int) + (E : Int) ≤ (c : Int) := by omega
      have i6 : (I : Int) ≤ (I : Int) + (E : Int) := by omega
      have i5 : ((I : Int) + (E : Int)).toNat = I + E := by omega
      have i7 : (I : Int) ≤ (c : Int) := by omega
      have w1 : IntKind.i64.wrap ((I : Int) + (E : Int)) = (I : Int) + (E : Int) := IntWalk.i64_in _ (by omega)
      have w2 : IntKind.i64.wrap ((I : Int) + (T : Int)) = (I : Int) + (T : Int) := IntWalk.i64_in _ (by omega)
      have m1 : min (T : Int) ((N - I : Nat) : Int) = (E : Int) := by omega
      have m2 : (if ((N - I : Nat) : Int) < (T : Int) then ((N - I : Nat) : Int) else (T : Int)) = (E : Int) := by split <;> omega
      have hcI : ¬ c = I := by omega
      have HCD : Hid (Kp S W wr.drew) := HCH.out.trans (Kp.of_below (Below.refl (S + 2) _).drew (Nat.le_refl _))
      have HES := Lib.hid hE
      clear hR hI HIN HEND HY HJD HCH hE
      gi_wp2_with fail
      gi_region_with_o (fail)
      all_goals gi_wp2_with fail
      all_goals (
        refine HRR.out.mono ?_
        rintro e W5 (⟨rfl, hj5, hk5⟩ | ⟨rfl, hjx5⟩))
      all_goals first
        | (have HJ5 := Lib.hid hj5
           have HK5 := Lib.hid (HCD.out.trans hk5)
           obtain ⟨q3, q4⟩ := HB1.out W5 HK5.out
           clear hj5 hk5 HRR hy q1 q2 HCD
           gi_wp2_with fail
           go_roundw
           case rel => exact ⟨k + 1, I + T, _, by omega, hN1.out, by go_num, inTurn_next HT.out hlt, HJ5.out, HK5.out⟩
           case measure => simp [intOf]; omega)
        | (have HJ5 := Lib.hid hjx5
           clear hjx5 HRR hy
           gi_wp2_with fail
           refine bodyPost_ret (results_none rfl _ _ _) rfl ?_
           exact ⟨⟨_, rfl⟩, .inr ⟨_, trivial, HJ5.out⟩⟩)
    · have hh := HEND.out
      obtain rfl : k = K := by omega
      rw [← hI] at hh
      have hnl : ¬ (I : Int) < (N : Int) := by omega
      clear HIN HEND HY
      gi_wp2_with fail
      go_end0
      exact ⟨⟨_, rfl⟩, .inl ⟨pre, HT.out, HJ.out⟩⟩
theorem chunkI_stops (n : Nat) (hn : 1 ≤ n) (S R o N c T K : Nat) (A : Option Addr) (hT : 1 ≤ T) (hT2 : T ≤ 2) (hA : 0 < N → A = some ⟨R, o, none⟩) (hK1 : ∀ k, k < K → k * T < N) (hK2 : ¬ K * T < N) (hK3 : K ≤ 800) (hN : N ≤ 800) (hc : N ≤ c) (w : World)
    (hB1 : Blk w S 22 [.slice A N c]) (hB2 : Blk w (S + 1) 3 [.int .i64 T]) (hl : S + 2 ≤ w.heap.size) :
    SeqStopsK Fence.wide n Try.prog 92 #[.pointer (some ⟨S, 0, none⟩), .pointer (some ⟨S + 1, 0, none⟩)] (bnE (K := K) R o N T) (Kp S)
      (fun ys => inTurn ys K) (fun _ => True) K w := fun l J Jx W hW hJ hJx hY h0 =>
  chunkI_in n hn l S R o N c T K A hT hT2 hA hK1 hK2 hK3 hN hc w J Jx W hJ hY (Nat.le_trans hl hW.size) ((hW.block S (by omega)).trans hB1) ((hW.block (S + 1) (by omega)).trans hB2) h0
theorem kp_t {S : Nat} {A B C : World} (h : Kp S A B) (k : Kp S B C) : Kp S A C := h.trans k
theorem kp_b {S : Nat} {w : World} (hn : S + 2 ≤ w.heap.size) (W : World) (l : Nat) (o o' : Obj) (hl : w.heap.size ≤ l) (h : W.heap[l]? = some o) (h1 : o.isCells = false) (h2 : o.isWalk = false) : Kp S W (W.putObj l o') := by
  have hlt := (Array.getElem?_eq_some_iff.1 h).1
  exact Kp.of_gb (grownBy_putObj' W l o') (.inr (by omega)) (by omega)
end Go.Proofs.Ytmhdjimdhcephaa
