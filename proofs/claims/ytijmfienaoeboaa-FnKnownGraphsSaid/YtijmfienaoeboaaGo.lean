/- Contracts of the program's RunGraph and SumGraph. -/
import Derived.Test.YtijmfienaoeboaaGn
import Derived.Test.YtijmfienaoeboaaBtw
namespace Go.Proofs.Ytijmfienaoeboaa
open Go Go.RowKit
set_option linter.unusedVariables false

section
variable {P : Program}
/-- A struct of two cells is stored into the midst of a block: what is known of the world behind it. -/
theorem wpList_store_two {ops : Array Oper} {rest : List Oper} {o : Oper} {a : Act} {w : World} {Q : Exit → Act → World → Prop} (hgd : o.guard = none) (ty : TypeId) (x y : Operand) (ho : o.op = .store ty x y)
    (b off : Nat) (v0 v1 : Value) (hx : a.eval x = .pointer (some ⟨b, off, none⟩)) (hy : a.eval y = .agg #[v0, v1])
    (cur : List Value) (t : TypeId) (hg : w.heap[b]? = some (.cells cur.toArray t (0, 0))) (hfit : off + 2 ≤ cur.length) (hi : (P.info? ty).map (·.size) = some 2)
    (h0 : v0.oneCell' = true) (h1 : v1.oneCell' = true)
    (h : ∀ w', Hid (w'.heap[b]? = some (.cells (splice cur off [v0, v1]).toArray t (0, 0))) → Hid (Below b w w') → wpList P ops Q rest (a.put o.dst undef) w') : wpList P ops Q (o :: rest) a w := by
  have ht : w.there b off 2 := fun j hj => by
    refine ⟨?_, frozen_of_row w b _ _ _ hg⟩
    rw [cell_of_row w b _ _ _ _ hg, List.getElem?_toArray, List.getElem?_eq_getElem (by omega)]
    rfl
  refine wpList_store_mid hgd ty x y ho b off #[v0, v1] hx hy ht hi (by simp [h0, h1]) (h _ ?_ ?_)
  · show _ = _
    have e := heap_setCell_same (w.setCell ⟨b, off, none⟩ v0) b (off + 1) _ t v1 (heap_setCell_same w b off _ t v0 hg)
    have hs : ((cur.toArray.setIfInBounds off v0).setIfInBounds (off + 1) v1) = (splice cur off [v0, v1]).toArray := by
      rw [List.setIfInBounds_toArray, List.setIfInBounds_toArray]
      congr 1
      exact set_two cur off v0 v1 hfit
    rw [hs] at e
    exact e
  · exact ((Below.refl b w).setCell (show b ≤ (⟨b, off, none⟩ : Addr).block from Nat.le_refl _) v0).setCell (show b ≤ (⟨b, off + 1, none⟩ : Addr).block from Nat.le_refl _) v1
where
  set_two {α : Type} : ∀ (l : List α) (i : Nat) (a b : α), i + 2 ≤ l.length → (l.set i a).set (i + 1) b = splice l i [a, b]
    | x :: y :: l, 0, a, b, _ => rfl
    | x :: l, i + 1, a, b, h => by
      have := set_two l i a b (by simp at h; omega)
      simp only [List.set_cons_succ, splice, List.take_succ_cons, List.length_cons, List.length_nil] at this ⊢
      rw [this, show i + 1 + (0 + 1 + 1) = (i + (0 + 1 + 1)) + 1 from by omega, List.drop_succ_cons]
      rfl
end

/-- Rows of two edges. -/
def rowsOf (e0 e1 : Nat → Int) (k : Nat) : List (List Int) := (List.range k).map fun x => [e0 x, e1 x]
theorem rowsOf_len (e0 e1 : Nat → Int) (k : Nat) : (rowsOf e0 e1 k).length = k := by simp [rowsOf]
theorem rowsOf_succ (e0 e1 : Nat → Int) (k : Nat) : rowsOf e0 e1 (k + 1) = rowsOf e0 e1 k ++ [[e0 k, e1 k]] := by simp [rowsOf, List.range_succ]
theorem rowsOf_at (e0 e1 : Nat → Int) (k x : Nat) (h : x < (rowsOf e0 e1 k).length) : (rowsOf e0 e1 k)[x] = [e0 x, e1 x] := by simp [rowsOf]
theorem twos_rowsOf (e0 e1 : Nat → Int) (k : Nat) : twos (rowsOf e0 e1 k) := by
  intro r hr
  obtain ⟨x, -, rfl⟩ := List.mem_map.1 hr
  rfl
theorem tab_put (n : Nat) (e0 e1 : Nat → Int) (k : Nat) (h : k < 12) : splice (tabL n (rowsOf e0 e1 k)) (1 + k * 2) [.int .i64 (e0 k), .int .i64 (e1 k)] = tabL n (rowsOf e0 e1 (k + 1)) := by
  have := tabL_splice n (rowsOf e0 e1 k) [e0 k, e1 k] (by rw [rowsOf_len]; exact h)
  rw [rowsOf_len] at this
  rw [rowsOf_succ, show 1 + k * 2 = 1 + 2 * k from by omega]
  exact this

/-- What the program holds in its round: the result's block, the table. -/
structure TL (w wr : World) (cur : List Value) : Prop where
  res : OneC wr w.heap.size nilV
  tab : wr.heap[w.heap.size + 1]? = some (.cells cur.toArray 132 (0, 0))
  below : Below w.heap.size w wr
  size : w.heap.size + 1 < wr.heap.size
theorem TL.put {w wr w' : World} {cur cur' : List Value} (h : TL w wr cur) (hb : Below (w.heap.size + 1) wr w') (hg : w'.heap[w.heap.size + 1]? = some (.cells cur'.toArray 132 (0, 0))) : TL w w' cur' :=
  ⟨h.res.below hb (by omega), hg, h.below.trans (hb.mono (by omega)), Nat.lt_of_lt_of_le h.size hb.size⟩

/-- A graph that was made is stored into the result's block. -/
theorem OwnG.store {w wr w7 : World} {v : Value} {us : List Value} {g : List (List Int)} (hr : OneC wr w.heap.size nilV) (hB : Below w.heap.size w wr) (ho : OwnG w7 wr.heap.size w7.heap.size v us g) (hb : Below wr.heap.size wr w7) :
    OneC w7 w.heap.size nilV ∧ ∀ W : World, W = w7.setCell ⟨w.heap.size, 0, none⟩ v → OwnG W w.heap.size W.heap.size v us g ∧ Below w.heap.size w W := by
  refine ⟨hr.keep hb, ?_⟩
  rintro W rfl
  have hlt := hr.2.2
  have hz : (w7.setCell ⟨w.heap.size, 0, none⟩ v).heap.size = w7.heap.size := by simp [World.setCell]
  refine ⟨⟨own_low (ownsRow_setCell_below ho.row hlt v) (by omega), ho.len, fun i h1 h2 => Own.base (ownsRow_setCell_below (ho.each i h1 h2) hlt v) (by omega), ho.apart, fun k hk => by rw [hz]; exact ho.top k hk, fun u hu k hk => by rw [hz]; exact ho.tops u hu k hk, Nat.le_refl _⟩, ?_⟩
  exact (hB.trans (hb.mono hB.size)).setCell (show w.heap.size ≤ (⟨w.heap.size, 0, none⟩ : Addr).block from Nat.le_refl _) _

theorem OwnG.nil (w : World) (lo : Nat) : OwnG w lo w.heap.size (.slice none 0 0) [] [] :=
  ⟨⟨rfl, .inl ⟨rfl, rfl⟩⟩, rfl, fun i h => by simp at h, List.Pairwise.nil, fun k hk => by simp [Value.ownBlock] at hk, fun u hu => by simp at hu, Nat.le_refl _⟩

theorem info61 : (Try.prog.info? 84).map (·.size) = some 2 := by kernel_rfl

/-- What RunGraph answers. -/
def rgOk (a b : Int) : Bool := decide ((0 ≤ b ∧ b ≤ 10) ∧ (0 ≤ a ∧ a ≤ b))
def rgE0 (m x : Nat) : Int := if (x : Int) < (m : Int) then (x : Int) + 1 else -1
def rgE1 (a : Int) (x : Nat) : Int := if (x : Int) ≥ a then 0 else -1
def rgG (a b : Int) : List (List Int) := if rgOk a b then rowsOf (rgE0 b.toNat) (rgE1 a) (b.toNat + 1) else []

set_option maxHeartbeats 1600000 in
set_option maxRecDepth 100000 in
theorem runGraph_impl (w : World) (a b : Int) :
    Calls Try.prog 54 #[.int .i64 a, .int .i64 b] w fun e w' => ∃ v us, e = .returned (.tuple #[.agg #[v], .bool (rgOk a b)]) ∧ OwnG w' w.heap.size w'.heap.size v us (rgG a b) ∧ Below w.heap.size w w' := by
  have HB0 : Hid (Below w.heap.size w (w.alloc (.cells #[.slice none 0 0] 60))) := (Below.refl _ _).alloc (Nat.le_refl _) _
  by_cases hb : 0 ≤ b ∧ b ≤ 10
  · by_cases ha : 0 ≤ a ∧ a ≤ b
    · have hok : rgOk a b = true := decide_eq_true ⟨hb, ha⟩
      have HV : Hid (rgG a b = rowsOf (rgE0 b.toNat) (rgE1 a) (b.toNat + 1)) := by show _ = _; unfold rgG; rw [if_pos hok]
      rw [hok, HV.out]
      clear HV hok
      obtain ⟨b0, b10⟩ := hb
      obtain ⟨a0, ab⟩ := ha
      obtain ⟨m, rfl⟩ := Int.eq_ofNat_of_zero_le b0
      rw [Int.toNat_natCast]
      obtain ⟨n, hn⟩ : ∃ n, n = m + 1 := ⟨_, rfl⟩
      rw [← hn]
      have HM := Lib.hid (show (m : Int) + 1 = (n : Int) by omega)
      have HM2 := Lib.hid hn
      have n11 : n ≤ 11 := by omega
      have t1 : IntKind.i64.wrap ((m : Int) + 1) = (m : Int) + 1 := IntWalk.i64_in _ (by omega)
      have HQ : Hid (((w.alloc (.cells #[.slice none 0 0] 60)).alloc (.cells zeroA 132)).heap[w.heap.size + 1]? = some (.cells zeroA 132 (0, 0))) := heap_alloc_at _ _ _ (by simp)
      have HO0 := Lib.hid (OneC.new w (.slice none 0 0) 60)
      clear hn
      go_enter Try.func54, Try.ntmps54
      go_wp2_with fail
      refine (btw_yes _ _ _ _ b0 b10).mono ?_; rintro e w' ⟨rfl, rfl⟩
      go_wp2_with fail
      refine (btw_yes _ _ _ _ a0 ab).mono ?_; rintro e w' ⟨rfl, rfl⟩
      go_wp2_with (refine wpList_store_abs rfl 132 (.tmp 6) (.tmp 20) rfl _ _ rfl rfl 132 _ HQ.out info64 rfl ?h1 ?_)
      case h1 => rw [HM.out]; exact tabL_all n []
      intro w3 hg3 hb3 hz3
      have HT : Hid (TL w w3 (tabL n (rowsOf (rgE0 m) (rgE1 a) 0))) := by
        show TL _ _ _
        have hg := hg3.out
        rw [HM.out] at hg
        exact ⟨(HO0.out.alloc _).below hb3.out (by omega), hg, (HB0.out.alloc HB0.out.size _).trans (hb3.out.mono (by omega)), by rw [hz3.out]; simp⟩
      have HN0 : Hid ((tabL n (rowsOf (rgE0 m) (rgE1 a) 0))[0]? = some (.int .i64 (n : Int))) := rfl
      have hc3 := (cell_of_row w3 _ 0 _ _ _ HT.out.tab).trans HN0.out
      clear hg3 hb3 hz3
      go_wp2_with fail
      clear hc3
      go_loopw [23] (fun i wr => ∃ j : Nat, j ≤ n ∧ i = .int .i64 j ∧ Hid (TL w wr (tabL n (rowsOf (rgE0 m) (rgE1 a) j)))) (fun i _ => n - (intOf i).toNat)
      case atStart => exact ⟨0, Nat.zero_le _, rfl, HT⟩
      case round =>
        obtain ⟨j, hj, rfl, HTj⟩ := hrel
        clear HT
        by_cases hlt : j < n
        · have hj1 : (j : Int) < (n : Int) := by omega
          have hj0 : (0 : Int) ≤ (j : Int) := by omega
          have hj12 : (j : Int) < 12 := by omega
          have t2 : IntKind.i64.wrap ((j : Int) + 1) = (j : Int) + 1 := IntWalk.i64_in _ (by omega)
          have HP := Lib.hid (tab_put n (rgE0 m) (rgE1 a) j (by omega))
          have HL : Hid (1 + j * 2 + 2 ≤ (tabL n (rowsOf (rgE0 m) (rgE1 a) j)).length) := by show _ ≤ _; rw [tabL_len _ _ (by rw [rowsOf_len]; omega)]; omega
          clear n11 HN0 HB0 HO0 HQ t1
          by_cases d0 : (j : Int) < (m : Int)
          all_goals by_cases d1 : a ≤ (j : Int)
          all_goals try (exfalso; have := HM2.out; omega)
          all_goals
            first
              | (have V0 : Hid (rgE0 m j = (j : Int) + 1) := if_pos d0)
              | (have V0 : Hid (rgE0 m j = -1) := if_neg d0)
            first
              | (have V1 : Hid (rgE1 a j = 0) := if_pos d1)
              | (have V1 : Hid (rgE1 a j = -1) := if_neg d1)
            rw [V0.out, V1.out] at HP
            first
              | have d2 := show j < m by omega
              | (have d2 : decide (j < m) = false := decide_eq_false (by omega); have d4 := decide_eq_false d0; clear d0)
            first
              | have d3 := show (j : Int) ≥ a from d1
              | (have d3 := decide_eq_false d1; clear d1)
            go_wp2_with fail
            refine (edgeIf_any _ _ _).mono ?_; rintro e w' ⟨rfl, rfl⟩
            go_wp2_with fail
            refine (edgeIf_any _ _ _).mono ?_; rintro e w' ⟨rfl, rfl⟩
            go_wp2_with (refine wpList_store_two rfl 84 (.tmp 39) (.tmp 37) rfl (w.heap.size + 1) (1 + j * 2) _ _ rfl rfl _ 132 HTj.out.tab HL.out info61 rfl rfl ?_)
            intro w6 hg6 hb6
            have h6 := hg6.out
            rw [HP.out] at h6
            have HT6 := Lib.hid (HTj.out.put hb6.out h6)
            clear h6
            clear hg6 hb6
            go_wp2_with fail
            go_roundw
            case rel => exact ⟨j + 1, by omega, by go_num, HT6⟩
            case measure => simp [intOf]; omega
        · obtain rfl : j = n := by omega
          have HI : Hid ((Try.prog.info? 132).map (·.size) = some (tabL j (rowsOf (rgE0 m) (rgE1 a) j)).toArray.size) := by
            show _ = _
            rw [info64, List.size_toArray, tabL_len _ _ (by rw [rowsOf_len]; omega)]
          have HC : Hid (∀ W : World, Calls Try.prog 109 #[.agg (tabL j (rowsOf (rgE0 m) (rgE1 a) j)).toArray] W fun e w' => ∃ v us, e = .returned (.agg #[v]) ∧ OwnG w' W.heap.size w'.heap.size v us (rowsOf (rgE0 m) (rgE1 a) j) ∧ Below W.heap.size W w') := by
            show ∀ W : World, _
            intro W
            have := tabGraph_any W (rowsOf (rgE0 m) (rgE1 a) j) (by rw [rowsOf_len]; omega) (twos_rowsOf _ _ _)
            rw [rowsOf_len] at this
            exact this
          clear n11 HN0 HB0 HO0 HQ t1
          go_wp2_with (refine wpList_load_row rfl 132 (.tmp 6) rfl _ rfl 132 _ (0, 0) _ HTj.out.tab Try.underlying132 rfl HI.out ?_)
          refine (HC.out wr).mono ?_; rintro e w7 ⟨v, us, rfl, ho7, hb7⟩
          obtain ⟨Av, nv, cv, rfl⟩ := rdg_sh ho7.rdg
          have HF := Lib.hid (OwnG.store HTj.out.res HTj.out.below ho7 hb7)
          clear ho7 hb7
          have p1 := HF.out.1.1
          have p2 := HF.out.1.2.1
          go_wp2_with fail
          exact bodyPost_ret (v := .tuple #[.agg #[.slice Av nv cv], .bool true]) (by simp [results, Try.results54, go_sem, p1]) rfl ⟨_, us, rfl, HF.out.2 _ rfl⟩
    · have hok : rgOk a b = false := decide_eq_false fun h => ha h.2
      have HV : Hid (rgG a b = []) := by show _ = _; unfold rgG; rw [hok]; rfl
      rw [hok, HV.out]
      have HA := Lib.hid ha
      obtain ⟨b0, b10⟩ := hb
      clear ha hok
      go_enter Try.func54, Try.ntmps54
      go_wp2_with fail
      refine (btw_yes _ _ _ _ b0 b10).mono ?_; rintro e w' ⟨rfl, rfl⟩
      go_wp2_with fail
      refine (btw_no _ _ _ _ HA.out).mono ?_; rintro e w' ⟨rfl, rfl⟩
      go_wp2_with fail
      exact bodyPost_ret (v := .tuple #[.agg #[.slice none 0 0], .bool false]) (by simp [results, Try.results54, go_sem]) rfl ⟨_, [], rfl, OwnG.nil _ _, HB0.out⟩
  · have hok : rgOk a b = false := decide_eq_false fun h => hb h.1
    have HV : Hid (rgG a b = []) := by show _ = _; unfold rgG; rw [hok]; rfl
    rw [hok, HV.out]
    have HA := Lib.hid hb
    clear hb hok
    go_enter Try.func54, Try.ntmps54
    go_wp2_with fail
    refine (btw_no _ _ _ _ HA.out).mono ?_; rintro e w' ⟨rfl, rfl⟩
    go_wp2_with fail
    exact bodyPost_ret (v := .tuple #[.agg #[.slice none 0 0], .bool false]) (by simp [results, Try.results54, go_sem]) rfl ⟨_, [], rfl, OwnG.nil _ _, HB0.out⟩
/-- What SumGraph answers. -/
def sgOk (b : Int) : Bool := decide (1 ≤ b ∧ b ≤ 11)
def sgE0 (x : Nat) : Int := (x : Int) - 1
def sgE1 (m x : Nat) : Int := if (x : Int) < (m : Int) then (x : Int) + 1 else -1
def sgG (b : Int) : List (List Int) := if sgOk b then rowsOf sgE0 (sgE1 b.toNat) (b.toNat + 1) else []

set_option maxHeartbeats 1600000 in
set_option maxRecDepth 100000 in
theorem sumGraph_impl (w : World) (b : Int) :
    Calls Try.prog 56 #[.int .i64 b] w fun e w' => ∃ v us, e = .returned (.tuple #[.agg #[v], .bool (sgOk b)]) ∧ OwnG w' w.heap.size w'.heap.size v us (sgG b) ∧ Below w.heap.size w w' := by
  have HB0 : Hid (Below w.heap.size w (w.alloc (.cells #[.slice none 0 0] 60))) := (Below.refl _ _).alloc (Nat.le_refl _) _
  by_cases hb : 1 ≤ b ∧ b ≤ 11
  · have hok : sgOk b = true := decide_eq_true hb
    have HV : Hid (sgG b = rowsOf sgE0 (sgE1 b.toNat) (b.toNat + 1)) := by show _ = _; unfold sgG; rw [if_pos hok]
    rw [hok, HV.out]
    clear HV hok
    obtain ⟨b0, b10⟩ := hb
    obtain ⟨m, rfl⟩ := Int.eq_ofNat_of_zero_le (show 0 ≤ b by omega)
    rw [Int.toNat_natCast]
    obtain ⟨n, hn⟩ : ∃ n, n = m + 1 := ⟨_, rfl⟩
    rw [← hn]
    have HM := Lib.hid (show (m : Int) + 1 = (n : Int) by omega)
    have HM2 := Lib.hid hn
    have n11 : n ≤ 12 := by omega
    have t1 : IntKind.i64.wrap ((m : Int) + 1) = (m : Int) + 1 := IntWalk.i64_in _ (by omega)
    have HQ : Hid (((w.alloc (.cells #[.slice none 0 0] 60)).alloc (.cells zeroA 132)).heap[w.heap.size + 1]? = some (.cells zeroA 132 (0, 0))) := heap_alloc_at _ _ _ (by simp)
    have HO0 := Lib.hid (OneC.new w (.slice none 0 0) 60)
    clear hn
    go_enter Try.func56, Try.ntmps56
    go_wp2_with fail
    refine (btw_yes _ _ _ _ b0 b10).mono ?_; rintro e w' ⟨rfl, rfl⟩
    go_wp2_with (refine wpList_store_abs rfl 132 (.tmp 4) (.tmp 12) rfl _ _ rfl rfl 132 _ HQ.out info64 rfl ?h1 ?_)
    case h1 => rw [HM.out]; exact tabL_all n []
    intro w3 hg3 hb3 hz3
    have HT : Hid (TL w w3 (tabL n (rowsOf sgE0 (sgE1 m) 0))) := by
      show TL _ _ _
      have hg := hg3.out
      rw [HM.out] at hg
      exact ⟨(HO0.out.alloc _).below hb3.out (by omega), hg, (HB0.out.alloc HB0.out.size _).trans (hb3.out.mono (by omega)), by rw [hz3.out]; simp⟩
    have HN0 : Hid ((tabL n (rowsOf sgE0 (sgE1 m) 0))[0]? = some (.int .i64 (n : Int))) := rfl
    have hc3 := (cell_of_row w3 _ 0 _ _ _ HT.out.tab).trans HN0.out
    clear hg3 hb3 hz3
    go_wp2_with fail
    clear hc3
    go_loopw [15] (fun i wr => ∃ j : Nat, j ≤ n ∧ i = .int .i64 j ∧ Hid (TL w wr (tabL n (rowsOf sgE0 (sgE1 m) j)))) (fun i _ => n - (intOf i).toNat)
    case atStart => exact ⟨0, Nat.zero_le _, rfl, HT⟩
    case round =>
      obtain ⟨j, hj, rfl, HTj⟩ := hrel
      clear HT
      by_cases hlt : j < n
      · have hj1 : (j : Int) < (n : Int) := by omega
        have hj0 : (0 : Int) ≤ (j : Int) := by omega
        have hj12 : (j : Int) < 12 := by omega
        have t2 : IntKind.i64.wrap ((j : Int) + 1) = (j : Int) + 1 := IntWalk.i64_in _ (by omega)
        have HP := Lib.hid (tab_put n sgE0 (sgE1 m) j (by omega))
        have HL : Hid (1 + j * 2 + 2 ≤ (tabL n (rowsOf sgE0 (sgE1 m) j)).length) := by show _ ≤ _; rw [tabL_len _ _ (by rw [rowsOf_len]; omega)]; omega
        clear n11 HN0 HB0 HO0 HQ t1
        have t3 : IntKind.i64.wrap ((j : Int) - 1) = (j : Int) - 1 := IntWalk.i64_in _ (by omega)
        by_cases d0 : (j : Int) > 0
        all_goals by_cases d1 : (j : Int) < (m : Int)
        all_goals try (exfalso; have := HM2.out; omega)
        all_goals
          first
            | (have V0 : Hid (sgE0 j = -1) := (show (j : Int) - 1 = -1 by omega))
            | (have V0 : Hid (sgE0 j = (j : Int) - 1) := rfl)
          first
            | (have V1 : Hid (sgE1 m j = (j : Int) + 1) := if_pos d1)
            | (have V1 : Hid (sgE1 m j = -1) := if_neg d1)
          rw [V0.out, V1.out] at HP
          first
            | have d2 := show j < m by omega
            | (have d2 : decide (j < m) = false := decide_eq_false (by omega); have d4 := decide_eq_false d1; clear d1)
          first
            | have d3 := show 0 < j by omega
            | (have d3 : decide (0 < j) = false := decide_eq_false (by omega); have d5 : decide ((0 : Int) < (j : Int)) = false := decide_eq_false d0; clear d0)
          go_wp2_with fail
          refine (edgeIf_any _ _ _).mono ?_; rintro e w' ⟨rfl, rfl⟩
          go_wp2_with fail
          refine (edgeIf_any _ _ _).mono ?_; rintro e w' ⟨rfl, rfl⟩
          go_wp2_with (refine wpList_store_two rfl 84 (.tmp 32) (.tmp 30) rfl (w.heap.size + 1) (1 + j * 2) _ _ rfl rfl _ 132 HTj.out.tab HL.out info61 rfl rfl ?_)
          intro w6 hg6 hb6
          have h6 := hg6.out
          rw [HP.out] at h6
          have HT6 := Lib.hid (HTj.out.put hb6.out h6)
          clear h6
          clear hg6 hb6
          go_wp2_with fail
          go_roundw
          case rel => exact ⟨j + 1, by omega, by go_num, HT6⟩
          case measure => simp [intOf]; omega
      · obtain rfl : j = n := by omega
        have HI : Hid ((Try.prog.info? 132).map (·.size) = some (tabL j (rowsOf sgE0 (sgE1 m) j)).toArray.size) := by
          show _ = _
          rw [info64, List.size_toArray, tabL_len _ _ (by rw [rowsOf_len]; omega)]
        have HC : Hid (∀ W : World, Calls Try.prog 109 #[.agg (tabL j (rowsOf sgE0 (sgE1 m) j)).toArray] W fun e w' => ∃ v us, e = .returned (.agg #[v]) ∧ OwnG w' W.heap.size w'.heap.size v us (rowsOf sgE0 (sgE1 m) j) ∧ Below W.heap.size W w') := by
          show ∀ W : World, _
          intro W
          have := tabGraph_any W (rowsOf sgE0 (sgE1 m) j) (by rw [rowsOf_len]; omega) (twos_rowsOf _ _ _)
          rw [rowsOf_len] at this
          exact this
        clear n11 HN0 HB0 HO0 HQ t1
        go_wp2_with (refine wpList_load_row rfl 132 (.tmp 4) rfl _ rfl 132 _ (0, 0) _ HTj.out.tab Try.underlying132 rfl HI.out ?_)
        refine (HC.out wr).mono ?_; rintro e w7 ⟨v, us, rfl, ho7, hb7⟩
        obtain ⟨Av, nv, cv, rfl⟩ := rdg_sh ho7.rdg
        have HF := Lib.hid (OwnG.store HTj.out.res HTj.out.below ho7 hb7)
        clear ho7 hb7
        have p1 := HF.out.1.1
        have p2 := HF.out.1.2.1
        go_wp2_with fail
        exact bodyPost_ret (v := .tuple #[.agg #[.slice Av nv cv], .bool true]) (by simp [results, Try.results56, go_sem, p1]) rfl ⟨_, us, rfl, HF.out.2 _ rfl⟩
  · have hok : sgOk b = false := decide_eq_false hb
    have HV : Hid (sgG b = []) := by show _ = _; unfold sgG; rw [hok]; rfl
    rw [hok, HV.out]
    have HA := Lib.hid hb
    clear hb hok
    go_enter Try.func56, Try.ntmps56
    go_wp2_with fail
    refine (btw_no _ _ _ _ HA.out).mono ?_; rintro e w' ⟨rfl, rfl⟩
    go_wp2_with fail
    exact bodyPost_ret (v := .tuple #[.agg #[.slice none 0 0], .bool false]) (by simp [results, Try.results56, go_sem]) rfl ⟨_, [], rfl, OwnG.nil _ _, HB0.out⟩
end Go.Proofs.Ytijmfienaoeboaa
