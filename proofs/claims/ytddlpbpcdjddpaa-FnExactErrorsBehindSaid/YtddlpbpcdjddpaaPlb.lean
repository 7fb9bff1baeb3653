/- A set of places: its bits. -/
import Derived.Test.YtddlpbpcdjddpaaPls
import Derived.Test.YtddlpbpcdjddpaaCvb
import Derived.Test.YtddlpbpcdjddpaaShelf
import Derived.Lib.Repeat
namespace Go.Proofs.Ytddlpbpcdjddpaa
open Go Go.RowKit
open Go.Maps (Keyed int_keyed keyOf_int_mk keyOf_int_inv)
set_option linter.unusedVariables false

theorem row_new (W : World) (s : ByteArray) : Bk ((W.alloc (.cells (rowB W s) 5 (markB W s))).drew) W.heap.size (byteVals s.data.toList) := by
  refine ⟨fun i x hx => ?_, fun i hi => ?_, by simp⟩
  · obtain ⟨hi, rfl⟩ := byteVals_at _ _ _ hx
    have hi' : i < s.size := by simpa using hi
    have := World.cell?_alloc_mark W.drew (rowB W s) 5 (markB W s) i
    rw [show W.drew.heap.size = W.heap.size from rfl] at this
    exact this.trans (by rw [rowB_at W s i hi']; rfl)
  · have hi' : i < s.size := by simpa [byteVals] using hi
    have e : ((W.alloc (.cells (rowB W s) 5 (markB W s))).drew).heap[W.heap.size]? = some (.cells (rowB W s) 5 (markB W s)) := by
      show (W.heap.push _)[W.heap.size]? = _
      simp
    have hsz : s.size ≤ (rowB W s).size := by unfold rowB bytesRow; simp
    unfold World.frozen?
    rw [e]
    unfold markB
    simp
    intro h; omega
/-- The bits of places. -/
def pbL (S : Int → Bool) (n : Nat) : List UInt8 := (List.range n).map fun i : Nat => if S (i : Int) = true then 49 else 48
theorem pbL_len (S : Int → Bool) (n : Nat) : (pbL S n).length = n := by simp [pbL]
theorem repZ (n : Nat) : Lib.repeatL [48] n = List.replicate n (48 : UInt8) := by
  induction n with
  | zero => rfl
  | succ n ih =>
    show [48] ++ Lib.repeatL [48] n = _
    rw [ih, List.replicate_succ]; rfl
/-- Which bits have been set: those of places that have come. -/
def PbM (S : Int → Bool) (N : Nat) (left : Lit → Bool) (M : List UInt8) : Prop :=
  M.length = N ∧ ∀ (i : Nat) (h : i < M.length), M[i] = if S i = true ∧ left (.int .i64 i) = false then 49 else 48
theorem pbM_set {S : Int → Bool} {N : Nat} {left : Lit → Bool} {M : List UInt8} (h : PbM S N left M) (x : Nat) (hs : S x = true) (hx : x < N) :
    PbM S N (fun z => left z && !z.sameKey (.int .i64 x)) (M.set x 49) := by
  refine ⟨by rw [List.length_set]; exact h.1, fun i hi => ?_⟩
  rw [List.length_set] at hi
  rw [List.getElem_set]
  by_cases e : x = i
  · subst e
    rw [if_pos rfl, if_pos ⟨hs, by simp [Lit.sameKey]⟩]
  · rw [if_neg e, h.2 i hi]
    have : ((Lit.int .i64 (i : Int)).sameKey (.int .i64 (x : Int))) = false := by simp [Lit.sameKey]; omega
    simp [this]
theorem pbM_skip {S : Int → Bool} {N : Nat} {left : Lit → Bool} {M : List UInt8} (h : PbM S N left M) (x : Int) (hx : ¬ x < (N : Int)) :
    PbM S N (fun z => left z && !z.sameKey (.int .i64 x)) M := by
  refine ⟨h.1, fun i hi => ?_⟩
  rw [h.2 i hi]
  have := h.1
  have : ((Lit.int .i64 (i : Int)).sameKey (.int .i64 x)) = false := by simp [Lit.sameKey]; omega
  simp [this]
theorem pbM_end {S : Int → Bool} {N : Nat} {left : Lit → Bool} {M : List UInt8} (h : PbM S N left M) (hl : ∀ k, left k = false) : M = pbL S N := by
  refine List.ext_getElem (by rw [pbL_len]; exact h.1) fun i h1 h2 => ?_
  rw [h.2 i h1, hl]
  simp [pbL]
theorem pbM_start {S : Int → Bool} {N : Nat} {left : Lit → Bool} (hN : N ≤ 1000000) (hl : ∀ i : Nat, i < N → S i = true → left (.int .i64 i) = true) : PbM S N left (List.replicate N 48) := by
  refine ⟨by simp, fun i hi => ?_⟩
  rw [List.getElem_replicate]
  rw [List.length_replicate] at hi
  cases hs : S i
  · simp
  · rw [hl i hi hs]; simp
theorem vals_put (M : List UInt8) (j : Nat) : (byteVals M).set j (.int .u8 49) = byteVals (M.set j 49) := by
  unfold byteVals
  rw [List.map_set]; rfl
theorem gb_set (w : World) (b j : Nat) (x : Value) : w.grownBy (w.setCell ⟨b, j, none⟩ x) (some b) :=
  ⟨rfl, rfl, rfl, by simp [World.setCell], fun k hk hne => Below.heap_setCell _ _ _ _ (by intro e; exact hne (by rw [e]))⟩
theorem add_off (b i : Nat) : (⟨b, 0, none⟩ : Addr).add i = ⟨b, i, none⟩ := by unfold Addr.add; split <;> simp_all
theorem strike_le {left : Lit → Bool} {x z : Lit} (h : (left z && !z.sameKey x) = true) : left z = true := (Bool.and_eq_true_iff.1 h).1

set_option maxRecDepth 100000 in
set_option maxHeartbeats 2000000 in
theorem bits_any (W : World) (b n : Nat) (S : Int → Bool) (N : Nat) (h : PS W b n S) (hpos : ∀ x, S x = true → 0 ≤ x) (hN : N ≤ 400) :
    Calls Try.prog 44 #[.map (some b), .int .i64 N] W fun e w' => e = .returned (.string ⟨(pbL S N).toArray⟩) ∧ Below W.heap.size W w' := by
  have HRP := Lib.hid (Try.strings_Repeat ⟨#[48]⟩ N W (by omega) (by show 1 * N ≤ _; omega))
  rw [show (⟨#[48]⟩ : ByteArray).data.toList = [48] from rfl, repZ] at HRP
  obtain ⟨V, hV⟩ : ∃ V : ByteArray, V = ⟨(List.replicate N 48).toArray⟩ := ⟨_, rfl⟩
  have hVs : V.size = N := by rw [hV]; show (List.replicate N 48).toArray.size = _; simp
  have hVl : V.data.toList = List.replicate N 48 := by rw [hV]
  rw [← hV] at HRP
  have hcv := fun W => convB W V
  have hlt := h.lt
  go_enter Try.func44, Try.ntmps44
  go_wp2_with fail
  refine HRP.out.mono ?_; rintro e w1 ⟨rfl, hb1⟩
  have h1 : PS w1 b n S := h.kept (row := none) ⟨hb1.os, hb1.tape, hb1.output, hb1.size, fun i hi _ => hb1.block i hi⟩ (by simp)
  have hbn := row_new w1 V
  have B2 : Below W.heap.size W ((w1.alloc (.cells (rowB w1 V) 5 (markB w1 V))).drew) := (hb1.alloc hb1.size _).drew
  have h2 : PS ((w1.alloc (.cells (rowB w1 V) 5 (markB w1 V))).drew) b n S := by
    obtain ⟨D, d1, d2⟩ := h1
    exact ⟨D, (d1.alloc _).drew, d2⟩
  have hbR : b < w1.heap.size := h1.lt
  have hR : W.heap.size ≤ w1.heap.size := hb1.size
  obtain ⟨D, hown, hD⟩ := h2
  obtain ⟨w3, hrun, hrg, hg3, hz3⟩ := hown.range law64 Try.underlying56
  have B3 := Lib.hid (B2.grown hg3 B2.size (fun j hj => by cases hj))
  have K3 := Lib.hid (show Bk w3 w1.heap.size (byteVals V.data.toList) from hbn.keep ⟨hg3.os, hg3.tape, hg3.output, hg3.size, fun i hi => hg3.block i hi (by simp)⟩)
  rw [hVl] at K3
  have HRG := Lib.hid hrg
  have HD := Lib.hid hD
  have HPOS := Lib.hid hpos
  have hlw : ((w1.alloc (.cells (rowB w1 V) 5 (markB w1 V))).drew).heap.size = w1.heap.size + 1 := by show (w1.heap.push _).size = _; simp
  clear h h1 hbn B2 hb1 hrg hD hpos hVl hV hown HRP
  rw [hlw] at HRG
  go_wp2_with fail
  have hR1 : w1.heap.size + 1 < w3.heap.size := HRG.out.lt
  generalize w1.heap.size = R at *
  clear hrun hlw hg3 hz3 hcv hVs
  generalize capB w1 V = cb at *
  have HM0 : Hid (PbM S N (Maps.has D) (List.replicate N 48)) := pbM_start (by omega) fun i hi hs => by rw [(HD.out i (wf64 (by omega))).1]; exact hs
  go_loopw [6] (fun p wr => ∃ (left : Lit → Bool) (cnt : Nat) (M : List UInt8), wr.ranges Try.prog 2 (plainElem Try.prog 4) b (R + 1) n D left cnt ∧ Bk wr R (byteVals M) ∧ PbM S N left M ∧ (∀ z, left z = true → Maps.has D z = true) ∧ Below W.heap.size W wr) (fun _ wr => wr.rangeLeft b (R + 1))
  case atStart => exact ⟨_, _, _, HRG.out, K3.out, HM0.out, fun z h => h, B3.out⟩
  case round =>
    clear HRG K3 HM0 B3
    obtain ⟨left, cnt, M, hrg, hbk, hpm, hle, hbl⟩ := hrel
    have HK := Lib.hid hbk
    have HM := Lib.hid hpm
    have HL := Lib.hid hle
    have HB := Lib.hid hbl
    have hle0 := hrg.left_eq
    rcases hrg.next law64 0 with ⟨h0, hl, hrun⟩ | ⟨key, v, kl, y, w5, cnt', hkey, hlk, hv, hat, hrun, hrg', hlt', hgr, hsz, hen⟩
    · have he := pbM_end hpm hl
      subst he
      have hcv : ∀ c, (convert 41 9 (.slice (some ⟨R, 0, none⟩) N c)).run Try.prog wr = .ok (.string ⟨(pbL S N).toArray⟩) wr := by
        intro c
        have e1 : N = (pbL S N).length := (pbL_len S N).symm
        conv => lhs; rw [e1]
        refine run_convert_bytes_back wr _ _ 5 ⟨R, 0, none⟩ c (pbL S N) Try.underlying41 Try.underlying5 Try.underlying9 (fun j hj => ?_)
        rw [add_off]
        exact HK.out.c j _ (by unfold byteVals; rw [List.getElem?_map, List.getElem?_eq_getElem hj]; rfl)
      clear hrg hbk hpm hle hbl hl
      go_wp2_with fail
      go_ret
      exact ⟨rfl, HB.out⟩
    · obtain ⟨x, rfl, rfl, hwx⟩ := Maps.keyOf_int_inv Try.underlying2 hkey
      have hS : S x = true := by rw [← (HD.out x hwx).1]; exact hle _ hlk
      have hx0 := HPOS.out x hS
      have HRN := Lib.hid hrg'
      have HLN : Hid (∀ z, (left z && !z.sameKey (.int .i64 x)) = true → Maps.has D z = true) := by show ∀ _, _; intro z h; exact hle z (strike_le h)
      have HK5 := Lib.hid (show Bk w5 R (byteVals M) from by
        refine ⟨fun i x hx => ?_, fun i hi => ?_, by rw [hsz]; exact hbk.2.2⟩
        · rw [← hbk.1 i x hx]; exact World.cell?_of_block (a := ⟨R, i, none⟩) (hgr.block R hbk.2.2 (fun e => by injection e with e; omega))
        · rw [← hbk.2.1 i hi]; exact World.frozen?_of_block (a := ⟨R, i, none⟩) (hgr.block R hbk.2.2 (fun e => by injection e with e; omega)))
      have HB5 := Lib.hid (hbl.grown hgr hbl.size (fun j hj => by injection hj with hj; omega))
      have HCN := Lib.hid hlt'
      have HL0 := Lib.hid hle0
      have HL5 := Lib.hid hrg'.left_eq
      have hbR' : b ≠ R := by omega
      clear hrg hbk hpm hle hbl hkey hlk hv hat hrg' hlt' hgr hsz hle0 hwx HD HPOS
      obtain ⟨j, rfl⟩ := Int.eq_ofNat_of_zero_le hx0
      by_cases hxn : (j : Int) < (N : Int)
      · have hj : j < M.length := by have := HM.out.1; omega
        have HPN := Lib.hid (pbM_set HM.out j hS (by omega))
        have hfz := HK5.out.f j (by unfold byteVals; rw [List.length_map]; exact hj)
        obtain ⟨q0, hcell⟩ : ∃ q0 : Int, w5.cell? ⟨R, j, none⟩ = some (.int .u8 q0) := ⟨_, HK5.out.c j (.int .u8 (M[j].toNat : Int)) (by unfold byteVals; rw [List.getElem?_map, List.getElem?_eq_getElem hj]; rfl)⟩
        have HKS := Lib.hid (HK5.out.set j (by unfold byteVals; rw [List.length_map]; exact hj) (.int .u8 49))
        rw [vals_put] at HKS
        have HRS := Lib.hid (HRN.out.kept (gb_set w5 R j (.int .u8 49)) (fun e => hbR' (by injection e)) (fun e => by injection e with e; omega))
        clear hS hj
        go_wp2_with fail
        go_roundw
        case rel => exact ⟨_, _, _, HRS.out, HKS.out, HPN.out, HLN.out, HB5.out.setCell (p := ⟨R, j, none⟩) hR _⟩
        case measure =>
          have e1 := HRS.out.left_eq
          have e2 := HL0.out
          have e3 := HCN.out
          rw [e1, e2]; exact e3
      · have HPN := Lib.hid (pbM_skip HM.out (j : Int) hxn)
        clear hS
        go_wp2_with fail
        go_roundw
        case rel => exact ⟨_, _, _, HRN.out, HK5.out, HPN.out, HLN.out, HB5.out⟩
        case measure =>
          have e1 := HL5.out
          have e2 := HL0.out
          have e3 := HCN.out
          rw [e1, e2]; exact e3
end Go.Proofs.Ytddlpbpcdjddpaa
