/- The program's leastOf over whatever iterator of numbers, and resultOf. -/
import Derived.RangeFuncNested
import Derived.RangeFuncBound
import Derived.RangeFuncCalls
import Derived.RangeFuncLeaves
import Derived.Shelf.Abstract
import Derived.Shelf.RegionOpen
import Derived.WalkKit
import Derived.OwnWalkIn
import Derived.TacticsInMore
import Derived.LoopNIn
import Derived.LoopIn
import Derived.Lib.OthersKept
import Derived.Test.YtnpigefbdadjfaaDoorBk
import Derived.Test.YtnpigefbdadjfaaDoorErv
namespace Go.Proofs.YtnpigefbdadjfaaDoor
open Go Go.RowKit Go.Shelf
set_option linter.unusedVariables false
attribute [local go_sem] Oper.semAt_some

/-- The least of some numbers (0 of none). -/
def lsV : List Int → Int
  | [] => 0
  | x :: l => l.foldl min x
theorem lsV_snoc (l : List Int) (x : Int) : lsV (l ++ [x]) = if l = [] then x else min (lsV l) x := by
  cases l with
  | nil => rfl
  | cons y l => rw [if_neg (by simp)]; show (l ++ [x]).foldl min y = _; rw [List.foldl_append]; rfl
/-- The error beside it. -/
def lsE (a : Addr) (l : List Int) : Value := if l = [] then .iface 219 (.pointer (some a)) else .nilIface
theorem lsE_no (a : Addr) : lsE a [] = .iface 219 (.pointer (some a)) := rfl
theorem lsE_yes (a : Addr) (l : List Int) (h : l ≠ []) : lsE a l = .nilIface := if_neg h
theorem bk_grown {W W' : World} {row : Option Nat} {b : Nat} {cs : List Value} (h : Bk W b cs) (hg : W.grownBy W' row) (hr : ∀ r, row = some r → ∃ o : Obj, W.heap[r]? = some o ∧ o.isCells = false) : Bk W' b cs :=
  ⟨fun i x hx => cell_kept (h.1 i x hx) hg hr, fun i hi => (frozen_kept (h.1 i _ (List.getElem?_eq_getElem hi)) hg hr).trans (h.2.1 i hi), Nat.lt_of_lt_of_le h.2.2 hg.size⟩

theorem own_bk {β : Type} (b : Nat) (cs : β → List Value) : Own (fun (s : β) W => Bk W b (cs s)) := fun s A B row hs hg hr => bk_grown hs hg hr
theorem resultOf_any (x : Int) (a : Addr) (l : List Int) (w : World) :
    Calls Tryd.prog 100 #[.int .i64 x, lsE a l] w fun e w' => e = .returned (.tuple #[.int .i64 x, .bool (!decide (l = []))]) ∧ Below w.heap.size w w' := by
  by_cases h : l = []
  · rw [h, lsE_no, decide_eq_true rfl]
    clear h
    go_enter Tryd.func100, Tryd.ntmps100
    go_wp2_with fail
    go_region
    all_goals (go_wp2_with fail; go_ret2)
    all_goals exact ⟨rfl, (Below.refl _ _).drew⟩
  · rw [lsE_yes _ _ h, decide_eq_false h]
    clear h
    go_enter Tryd.func100, Tryd.ntmps100
    go_wp2_with fail
    go_region
    all_goals (go_wp2_with fail; go_ret2)
    all_goals exact ⟨rfl, (Below.refl _ _).drew⟩

set_option maxRecDepth 100000 in
set_option maxHeartbeats 2000000 in
theorem leastOf_any {α : Type} (vl : α → Int) (g : Nat) (lb : Array Value) (S Sp : List α → Prop) (N : Nat) (w : World) (a : Addr)
    (hv : Ev 1 a w) (hent : Enters Tryd.prog g)
    (hst : ∀ W, Below w.heap.size w W → SeqStopsK Fence.wide 8 Tryd.prog g lb (fun x => #[.int .i64 (vl x)]) (Below w.heap.size) S Sp N W) :
    Calls Tryd.prog 101 #[.func (.func g) #[] lb] w fun e w' => (∃ xs, S xs ∧ e = .returned (.tuple #[.int .i64 (lsV (xs.map vl)), lsE a (xs.map vl)])) ∧ Below w.heap.size w w' := by
  have hcv := (hv.keep ((Below.refl _ w).alloc (Nat.le_refl _) (.cells #[.int .i64 0] 2))).cell
  have HV := Lib.hid hv
  have HST := Lib.hid hst
  have HEN := Lib.hid hent
  clear hv hst hent
  refine (callsIn_wide (n := 9)).1 ?_
  have h1 : 1 ≤ 9 := by omega
  have hmx : Tryd.prog.follows .mixedOrders = true := by kernel_rfl
  refine callsIn_of_wp_marks Tryd.func101 rfl trivial ?_ rfl
  simp only [Tryd.ntmps101, List.size_toArray, List.length_cons, List.length_nil, Nat.reduceAdd, Nat.reduceSub, Array.replicate_succ, Array.replicate_zero, List.push_toArray, List.append_toArray, List.nil_append, List.cons_append]
  gi_wp2_with fail
  clear hcv
  obtain ⟨W2, hW2⟩ : ∃ W2, W2 = (w.alloc (.cells #[.int .i64 0] 2)).alloc (.cells #[.iface 219 (.pointer (some a))] 82) := ⟨_, rfl⟩
  have HB2 : Hid (Below w.heap.size w W2) := by show Below _ _ _; rw [hW2]; exact ((Below.refl _ w).alloc (Nat.le_refl _) _).alloc (by simp) _
  have HZ2 : Hid (W2.heap.size = w.heap.size + 2) := by show _ = _; rw [hW2]; simp
  have HK1 : Hid (Bk W2 w.heap.size [.int .i64 (lsV ([].map vl))]) := by show Bk _ _ _; rw [hW2]; exact (Bk.new w [.int .i64 0] _ _ rfl).alloc _
  have HK2 : Hid (Bk W2 (w.heap.size + 1) [lsE a ([].map vl)]) := by show Bk _ _ _; rw [hW2]; exact Bk.new _ [.iface 219 (.pointer (some a))] _ _ (by simp)
  rw [← hW2]
  clear hW2
  refine wpIn_rangeFunc_ownF rfl h1 (gf := g) (lb := lb) rfl trivial HEN.out
    (HST.out W2 HB2.out) belowK_t (belowK_b HB2.out.size) (Below.refl _ _) (fun _ => rfl)
    (fun pre W => Bk W w.heap.size [.int .i64 (lsV (pre.map vl))] ∧ Bk W (w.heap.size + 1) [lsE a (pre.map vl)] ∧ w.heap.size + 2 ≤ W.heap.size ∧ Below w.heap.size w W)
    (fun _ _ _ => False)
    (OwnFrom.and (Own.from (own_bk _ (fun (pre : List α) => [.int .i64 (lsV (pre.map vl))])) _) (OwnFrom.and (Own.from (own_bk _ (fun (pre : List α) => [lsE a (pre.map vl)])) _) (OwnFrom.and (fun _ _ _ _ h hg _ => Nat.le_trans h hg.size) (ownFrom_below (Nat.le_refl _) HB2.out.size))))
    (fun _ _ _ _ _ hs _ _ => hs)
    ⟨HK1.out, HK2.out, by rw [HZ2.out]; exact Nat.le_refl _, HB2.out⟩
    (fun x => { tmps := #[.func (.func g) #[] lb, undef, .int .i64 0, .nilIface, .pointer (some ⟨w.heap.size, 0, none⟩), .pointer (some ⟨w.heap.size + 1, 0, none⟩), .int .i64 (vl x), .iface 219 (.pointer (some a)), .func (.func g) #[] lb, .int .i64 (vl x),
      undef, undef, undef, undef, undef, undef, undef, undef, undef, undef], defers := [] }) ?assign ?body ?done ?stop
  case assign =>
    intro l x W K hK
    gi_wp2
    exact hK
  case body =>
    rintro l pre x W ⟨k1, k2, hsz, hbl⟩ -
    have HK1 := Lib.hid k1
    have HK2 := Lib.hid k2
    have HSZ := Lib.hid hsz
    have HBL := Lib.hid hbl
    have hm : (pre ++ [x]).map vl = pre.map vl ++ [vl x] := by rw [List.map_append]; rfl
    have HS1 : Hid (lsV ((pre ++ [x]).map vl) = if pre.map vl = [] then vl x else min (lsV (pre.map vl)) (vl x)) := by show _ = _; rw [hm, lsV_snoc]
    have HS2 : Hid (lsE a ((pre ++ [x]).map vl) = .nilIface) := lsE_yes _ _ (by rw [hm]; simp)
    have t1 := k1.c 0 _ rfl
    have t2 := k2.c 0 _ rfl
    have f1 := k1.f 0 (by simp)
    have f2 := k2.f 0 (by simp)
    have HFIN : Hid (∀ y, y = lsV ((pre ++ [x]).map vl) → KeepsOthers W ((W.setCell ⟨w.heap.size, 0, none⟩ (.int .i64 y)).setCell ⟨w.heap.size + 1, 0, none⟩ .nilIface) ∧ Below w.heap.size W ((W.setCell ⟨w.heap.size, 0, none⟩ (.int .i64 y)).setCell ⟨w.heap.size + 1, 0, none⟩ .nilIface) ∧
        Bk ((W.setCell ⟨w.heap.size, 0, none⟩ (.int .i64 y)).setCell ⟨w.heap.size + 1, 0, none⟩ .nilIface) w.heap.size [.int .i64 (lsV ((pre ++ [x]).map vl))] ∧ Bk ((W.setCell ⟨w.heap.size, 0, none⟩ (.int .i64 y)).setCell ⟨w.heap.size + 1, 0, none⟩ .nilIface) (w.heap.size + 1) [lsE a ((pre ++ [x]).map vl)] ∧
        w.heap.size + 2 ≤ ((W.setCell ⟨w.heap.size, 0, none⟩ (.int .i64 y)).setCell ⟨w.heap.size + 1, 0, none⟩ .nilIface).heap.size ∧ Below w.heap.size w ((W.setCell ⟨w.heap.size, 0, none⟩ (.int .i64 y)).setCell ⟨w.heap.size + 1, 0, none⟩ .nilIface)) := by
      show ∀ y, _
      intro y hy
      subst hy
      have b1 : Below w.heap.size W ((W.setCell ⟨w.heap.size, 0, none⟩ (.int .i64 (lsV ((pre ++ [x]).map vl)))).setCell ⟨w.heap.size + 1, 0, none⟩ .nilIface) := ((Below.refl _ W).setCell (p := ⟨w.heap.size, 0, none⟩) (Nat.le_refl _) _).setCell (p := ⟨w.heap.size + 1, 0, none⟩) (by simp) _
      refine ⟨(KeepsOthers.setCell _ _ _).trans (KeepsOthers.setCell _ _ _), b1, ?_, ?_, by simp [World.setCell]; omega, hbl.trans b1⟩
      · exact (k1.set 0 (by simp) _).far _ (by simp) _
      · rw [HS2.out]; exact (k2.far _ (by simp) _).set 0 (by simp) _
    clear k1 k2 hsz hbl hm HST
    by_cases hp : pre.map vl = []
    · rw [hp] at t1 t2 HS1
      rw [lsE_no] at t2
      rw [if_pos rfl] at HS1
      have HF := Lib.hid (HFIN.out (vl x) HS1.out.symm)
      clear HFIN hp
      gi_wp2_with fail
      exact HF.out
    · rw [lsE_yes _ _ hp] at t2
      rw [if_neg hp] at HS1
      by_cases hlt : vl x < lsV (pre.map vl)
      · have HF := Lib.hid (HFIN.out (vl x) (by rw [HS1.out]; omega))
        clear HFIN hp
        gi_wp2_with fail
        exact HF.out
      · have hmn : Hid (lsV ((pre ++ [x]).map vl) = lsV (pre.map vl)) := by show _ = _; rw [HS1.out]; omega
        have HE : Hid (lsE a ((pre ++ [x]).map vl) = lsE a (pre.map vl)) := by show _ = _; rw [HS2.out, lsE_yes _ _ hp]
        clear HFIN hp
        gi_wp2_with fail
        refine ⟨KeepsOthers.refl _, Below.refl _ _, ?_, ?_, HSZ.out, HBL.out⟩
        · rw [hmn.out]; exact HK1.out
        · rw [HE.out]; exact HK2.out
  case done =>
    rintro D ys W hD hcz ⟨k1, k2, hsz, hbl⟩ hK
    have t1 := k1.drew.c 0 _ rfl
    have t2 := k2.drew.c 0 _ rfl
    have f1 := k1.drew.f 0 (by simp)
    have f2 := k2.drew.f 0 (by simp)
    have HKD := Lib.hid ((KeepsOthers.drew W).same D _ hK rfl)
    have HBL : Hid (Below w.heap.size w W.drew) := hbl.drew
    have HD4 := Lib.hid hD
    have HS := Lib.hid hcz
    clear k1 k2 hsz hbl hK hD hcz HST
    gi_wp2_with fail
    gi_region_o
    all_goals gi_wp2_with fail
    all_goals refine ⟨by simp, .inl ⟨_, _, rfl, run_takeDeferred HKD.out, ?_⟩⟩
    all_goals refine ⟨_, results_tmp2 rfl _ _ _, ?_⟩
    all_goals exact ⟨⟨ys, HS.out, rfl⟩, HBL.out.trans (belowK_b (w := w) (Nat.le_refl _) W.drew D _ _ (Nat.le_trans HB2.out.size HD4.out) HKD.out rfl rfl)⟩
  case stop =>
    rintro D c pre W _ _ h _
    exact h.elim
end Go.Proofs.YtnpigefbdadjfaaDoor
