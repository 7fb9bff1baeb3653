/- Contracts of the model's RunGraph and SumGraph. -/
import Derived.Test.YtnllllpdjfbedaaGo
namespace Go.Proofs.Ytnllllpdjfbedaa
open Go Go.RowKit
set_option linter.unusedVariables false

theorem own_block {w w' : World} {base : Nat} {e : TypeId} {size n : Nat} {v : Value} {xs : List Value} (h : w.ownsRow base e size v n xs) (hk : ∀ k, v.ownBlock = some k → w'.heap[k]? = w.heap[k]?) : w'.ownsRow base e size v n xs := by
  refine ⟨h.1, ?_⟩
  rcases h.2 with h' | ⟨g, cap, cur, rfl, h1, hg, h2⟩
  · exact .inl h'
  · exact .inr ⟨g, cap, cur, rfl, h1, (hk g rfl).trans hg, h2⟩
theorem own_lift {w : World} {base base' : Nat} {e : TypeId} {size n : Nat} {v : Value} {xs : List Value} (h : w.ownsRow base e size v n xs) (hk : ∀ k, v.ownBlock = some k → base' ≤ k) : w.ownsRow base' e size v n xs := by
  refine ⟨h.1, ?_⟩
  rcases h.2 with h' | ⟨g, cap, cur, rfl, h1, hg, h2⟩
  · exact .inl h'
  · exact .inr ⟨g, cap, cur, rfl, hk g rfl, hg, h2⟩
theorem own_off {w : World} {B b : Nat} {v : Value} {n : Nat} {xs : List Value} {cs : Array Value} {fr : Nat × Nat} (h : w.ownsRow B 46 1 v n xs) (hb : w.heap[b]? = some (.cells cs 27 fr)) : v.ownBlock ≠ some b := by
  rcases h.2 with ⟨rfl, _⟩ | ⟨g, cap, cur, rfl, _, hg, _⟩
  · simp [Value.ownBlock]
  · intro e
    simp only [Value.ownBlock, Option.some.injEq] at e
    subst e
    rw [hg] at hb
    simp only [Option.some.injEq, Obj.cells.injEq] at hb
    exact absurd hb.2.1 (by decide)
theorem heap_lt {w : World} {k : Nat} {o : Obj} (h : w.heap[k]? = some o) : k < w.heap.size := by
  rcases Nat.lt_or_ge k w.heap.size with h' | h'
  · exact h'
  · rw [Array.getElem?_eq_none h'] at h; cases h

/-- What the model holds in its round: the result's block, the graph's, its rows. -/
structure ML (w wr : World) (v : Value) (us : List Value) (g : List (List Int)) : Prop where
  res : OneC wr w.heap.size nilV
  box : wr.heap[w.heap.size + 1 + 1]? = some (.cells #[v] 27 (0, 0))
  row : wr.ownsRow (w.heap.size + 1) 46 1 v us.length us
  len : us.length = g.length
  each : ∀ i (h : i < g.length) (h' : i < us.length), Own wr (w.heap.size + 1 + 1 + 1) us[i] g[i]
  apart : us.Pairwise apart2
  tops : ∀ u ∈ us, ∀ k, u.ownBlock = some k → k < wr.heap.size
  below : Below w.heap.size w wr

def rowV (k : Nat) : Value := .slice (some ⟨k, 0, none⟩) 2 2
def two (wr : World) (x y : Int) : World := (wr.alloc (.cells #[.int .i64 x, .int .i64 y] 2)).alloc (.cells #[rowV wr.heap.size] 46)

theorem ML.next {w wr w5 : World} {v v' : Value} {us : List Value} {g : List (List Int)} {x y : Int} (h : ML w wr v us g) (ho : w5.ownsRow (w.heap.size + 1) 46 1 v' (us.length + 1) (us ++ [rowV wr.heap.size])) (hg : (two wr x y).grownBy w5 v.ownBlock) :
    ML w (w5.setCell ⟨w.heap.size + 1 + 1, 0, none⟩ v') v' (us ++ [rowV wr.heap.size]) (g ++ [[x, y]]) := by
  have hlt := heap_lt h.box
  have h2z : (two wr x y).heap.size = wr.heap.size + 1 + 1 := by simp [two]
  have hoff := own_off h.row h.box
  have hvlt := World.ownsRow.lt h.row
  have h2b : Below wr.heap.size wr (two wr x y) := ((Below.refl _ _).alloc (Nat.le_refl _) _).alloc (by simp) _
  have h5b : Below (w.heap.size + 1) wr w5 := (h2b.mono (by omega)).grown hg (by rw [h2z]; omega) (fun k hk => (hvlt k hk).1)
  have hz5 := hg.size
  rw [h2z] at hz5
  have hold : ∀ k, k < wr.heap.size → some k ≠ v.ownBlock → w5.heap[k]? = wr.heap[k]? := fun k h1 h2 => (hg.block k (by omega) h2).trans (h2b.block k h1)
  have hbox5 := (hold _ hlt (fun e => hoff e.symm)).trans h.box
  have hnew : w5.heap[wr.heap.size]? = some (.cells #[.int .i64 x, .int .i64 y] 2 (0, 0)) := by
    refine (hg.block _ (by omega) (fun e => by have := (hvlt _ e.symm).2; omega)).trans ?_
    exact (Below.heap_alloc _ _ _ (by simp)).trans (heap_alloc_new wr _)
  have hszS : (w5.setCell ⟨w.heap.size + 1 + 1, 0, none⟩ v').heap.size = w5.heap.size := by simp [World.setCell]
  have hother : ∀ k, k ≠ w.heap.size + 1 + 1 → (w5.setCell ⟨w.heap.size + 1 + 1, 0, none⟩ v').heap[k]? = w5.heap[k]? := fun k hk => heap_setCell_other _ _ _ _ hk
  have hB5 : Below (w.heap.size + 1) wr (w5.setCell ⟨w.heap.size + 1 + 1, 0, none⟩ v') := h5b.setCell (show w.heap.size + 1 ≤ w.heap.size + 1 + 1 by omega) _
  refine ⟨h.res.below hB5 (by omega), ?_, ?_, by simp [h.len], ?_, ?_, ?_, h.below.trans (hB5.mono (by omega))⟩
  · have := heap_setCell_same w5 (w.heap.size + 1 + 1) 0 _ _ v' hbox5
    simpa using this
  · rw [List.length_append, List.length_singleton]
    exact own_block ho (fun k hk => hother k (fun e => own_off ho hbox5 (by rw [hk, e])))
  · intro i h1 h2
    rcases Nat.lt_or_ge i us.length with h3 | h3
    · have hi : i < g.length := by rw [← h.len]; exact h3
      have := h.each i hi h3
      rw [List.getElem_append_left h3, List.getElem_append_left hi]
      refine own_block this fun k hk => ?_
      have hb := World.ownsRow.lt this k hk
      refine (hother k (by omega)).trans (hold k hb.2 ?_)
      intro e
      rcases own_ne h.row (Own.base this (show w.heap.size + 1 ≤ _ by omega)) with e2 | e2
      · rw [e2] at e; cases e
      · exact e2 (e.symm.trans hk.symm)
    · have hi : i = us.length := by rw [List.length_append, List.length_singleton] at h2; omega
      subst hi
      have e1 : (us ++ [rowV wr.heap.size])[us.length] = rowV wr.heap.size := by simp
      have e2 : (g ++ [[x, y]])[us.length]'h1 = [x, y] := by simp [h.len]
      rw [e1, e2]
      refine ⟨rfl, .inr ⟨wr.heap.size, 2, #[.int .i64 x, .int .i64 y], rfl, by omega, ?_, by simp, by unfold maxLen; omega, rfl, rfl⟩⟩
      exact (hother _ (by omega)).trans hnew
  · refine apart_snoc h.apart h.tops fun k hk => ?_
    simp [rowV, Value.ownBlock] at hk
    omega
  · intro u hu k hk
    rw [hszS]
    rcases List.mem_append.1 hu with h' | h'
    · have := h.tops u h' k hk; omega
    · simp at h'; subst h'
      simp [rowV, Value.ownBlock] at hk
      omega

theorem ML.box5 {w wr w5 : World} {v : Value} {us : List Value} {g : List (List Int)} {x y : Int} (h : ML w wr v us g) (hg : (two wr x y).grownBy w5 v.ownBlock) : w5.heap[w.heap.size + 1 + 1]? = some (.cells #[v] 27 (0, 0)) := by
  have hlt := heap_lt h.box
  have hoff := own_off h.row h.box
  have h2b : Below wr.heap.size wr (two wr x y) := ((Below.refl _ _).alloc (Nat.le_refl _) _).alloc (by simp) _
  have h2z : (two wr x y).heap.size = wr.heap.size + 1 + 1 := by simp [two]
  exact ((hg.block _ (by omega) (fun e => hoff e.symm)).trans (h2b.block _ hlt)).trans h.box
theorem two_row {w wr : World} {v : Value} {us : List Value} {g : List (List Int)} (h : ML w wr v us g) (x y : Int) : (two wr x y).ownsRow (w.heap.size + 1) 46 1 v us.length us :=
  own_below h.row (((Below.refl _ _).alloc (Nat.le_refl _) _).alloc (by simp) _)
theorem two_src (wr : World) (x y : Int) : ∀ (j : Nat) (u : Value), [rowV wr.heap.size][j]? = some u → (two wr x y).cell? ((⟨wr.heap.size + 1, 0, none⟩ : Addr).add j) = some u := by
  intro j u hj
  have hadd : ∀ i, (⟨wr.heap.size + 1, 0, none⟩ : Addr).add i = ⟨wr.heap.size + 1, 0 + i, none⟩ := fun i => by unfold Addr.add; split <;> simp_all
  rw [hadd]
  match j, hj with
  | 0, hj =>
    simp at hj; subst hj
    unfold two
    rw [World.cell?_alloc_at _ _ _ _ (by simp)]
    rfl

theorem ML.done {w wr : World} {v : Value} {us : List Value} {g : List (List Int)} (h : ML w wr v us g) :
    OwnG (wr.setCell ⟨w.heap.size, 0, none⟩ v) w.heap.size (wr.setCell ⟨w.heap.size, 0, none⟩ v).heap.size v us g ∧ Below w.heap.size w (wr.setCell ⟨w.heap.size, 0, none⟩ v) := by
  have hz : (wr.setCell ⟨w.heap.size, 0, none⟩ v).heap.size = wr.heap.size := by simp [World.setCell]
  refine ⟨⟨own_low (ownsRow_setCell_below h.row (by simp) v) (by omega), h.len, fun i h1 h2 => Own.base (ownsRow_setCell_below (h.each i h1 h2) (by simp; omega) v) (by omega), h.apart, fun k hk => by rw [hz]; exact (World.ownsRow.lt h.row k hk).2, fun u hu k hk => by rw [hz]; exact h.tops u hu k hk, Nat.le_refl _⟩, h.below.setCell (show w.heap.size ≤ w.heap.size from Nat.le_refl _) _⟩

theorem ML.first (w : World) : ML w (((w.alloc (.cells #[.slice none 0 0] 27)).alloc (.cells #[] 46)).alloc (.cells #[.slice (some ⟨w.heap.size + 1, 0, none⟩) 0 0] 27)) (.slice (some ⟨w.heap.size + 1, 0, none⟩) 0 0) [] [] := by
  refine ⟨((OneC.new w _ _).alloc _).alloc _, heap_alloc_at _ _ _ (by simp), ?_, rfl, fun i h => by simp at h, List.Pairwise.nil, fun u hu => by simp at hu, (((Below.refl _ _).alloc (Nat.le_refl _) _).alloc (by simp) _).alloc (by simp; omega) _⟩
  refine ⟨rfl, .inr ⟨w.heap.size + 1, 0, #[], rfl, Nat.le_refl _, ?_, Nat.le_refl _, by decide, rfl, rfl⟩⟩
  exact (Below.heap_alloc _ _ _ (by simp)).trans (heap_alloc_at _ _ _ (by simp))

set_option maxHeartbeats 1600000 in
set_option maxRecDepth 100000 in
theorem runGraph_spec (w : World) (a b : Int) :
    Calls Try.prog 20 #[.int .i64 a, .int .i64 b] w fun e w' => ∃ v us, e = .returned (.tuple #[.agg #[v], .bool (rgOk a b)]) ∧ OwnG w' w.heap.size w'.heap.size v us (rgG a b) ∧ Below w.heap.size w w' := by
  have HB0 : Hid (Below w.heap.size w (w.alloc (.cells #[.slice none 0 0] 27))) := (Below.refl _ _).alloc (Nat.le_refl _) _
  obtain ⟨i0, hi, hz0, hz1, hz2⟩ := info_parts Try.infoRow
  by_cases hb : 0 ≤ b ∧ b ≤ 10
  · by_cases ha : 0 ≤ a ∧ a ≤ b
    · have hok : rgOk a b = true := decide_eq_true ⟨hb, ha⟩
      have HV : Hid (rgG a b = rowsOf (rgE0 b.toNat) (rgE1 a) (b.toNat + 1)) := by show _ = _; unfold rgG; rw [if_pos hok]
      rw [hok, HV.out]
      clear HV hok
      obtain ⟨b0, b10⟩ := hb
      obtain ⟨a0, ab⟩ := ha
      obtain ⟨m, rfl⟩ := Int.eq_ofNat_of_zero_le b0
      rw [Int.toNat_natCast]
      have HF := Lib.hid (ML.first w)
      go_enter Try.func20, Try.ntmps20
      go_wp2_with fail
      refine (l00In_yes _ _ _ _ b0 b10).mono ?_; rintro e w' ⟨rfl, rfl⟩
      go_wp2_with fail
      refine (l00In_yes _ _ _ _ a0 ab).mono ?_; rintro e w' ⟨rfl, rfl⟩
      go_wp2_with fail
      go_loopw [7] (fun i wr => ∃ (j : Nat) (v : Value) (us : List Value), j ≤ m + 1 ∧ i = .int .i64 j ∧ us.length = j ∧ Hid (ML w wr v us (rowsOf (rgE0 m) (rgE1 a) j))) (fun i _ => m + 1 - (intOf i).toNat)
      case atStart => exact ⟨0, _, [], Nat.zero_le _, rfl, rfl, HF⟩
      case round =>
        obtain ⟨j, v, us, hj, rfl, hus, HMj⟩ := hrel
        clear HF HB0
        obtain ⟨A, n, c, rfl⟩ : ∃ A n c, v = .slice A n c := by
          rcases HMj.out.row.2 with ⟨rfl, _⟩ | ⟨g, cap, cur, rfl, _⟩
          · exact ⟨_, _, _, rfl⟩
          · exact ⟨_, _, _, rfl⟩
        have hcb := cell_of_row wr _ 0 _ _ _ HMj.out.box
        have hfb := frozen_of_row wr _ 0 _ _ HMj.out.box
        by_cases hlt : j < m + 1
        · have hj0 : (0 : Int) ≤ (j : Int) := by omega
          have hj1 : (j : Int) ≤ (m : Int) := by omega
          have hj2 : j ≤ m := by omega
          have t2 : IntKind.i64.wrap ((j : Int) + 1) = (j : Int) + 1 := IntWalk.i64_in _ (by omega)
          have HS := Lib.hid (rowsOf_succ (rgE0 m) (rgE1 a) j)
          have HU := Lib.hid hus
          have HR2 := Lib.hid (two_row HMj.out)
          have HC := Lib.hid (two_src wr)
          have H1 : Hid (∀ u ∈ [rowV wr.heap.size], u.oneCell' = true) := by
            show ∀ u ∈ _, _
            intro u hu; simp at hu; subst hu; rfl
          clear hus
          by_cases d0 : (j : Int) < (m : Int)
          all_goals by_cases d1 : a ≤ (j : Int)
          all_goals try (exfalso; omega)
          all_goals
            first
              | (have V0 : Hid (rgE0 m j = (j : Int) + 1) := if_pos d0)
              | (have V0 : Hid (rgE0 m j = -1) := if_neg d0)
            first
              | (have V1 : Hid (rgE1 a j = 0) := if_pos d1)
              | (have V1 : Hid (rgE1 a j = -1) := if_neg d1)
            rw [V0.out, V1.out] at HS
            first
              | have d2 := show j < m by omega
              | (have d2 : decide (j < m) = false := decide_eq_false (by omega); have d4 := decide_eq_false d0; clear d0)
            first
              | have d3 := show (j : Int) ≥ a from d1
              | (have d3 := decide_eq_false d1; clear d1)
            go_wp2_with (refine wpList_append_own _ rfl _ _ 22 rfl (w.heap.size + 1) 46 i0 (.slice none 0 0) 1 24 Try.underlying22 hi hz0 hz1 hz2 rfl (by decide) _ _ _ rfl (HR2.out _ _) ⟨wr.heap.size + 1, 0, none⟩ 1 1 [rowV wr.heap.size] rfl rfl (HC.out _ _) H1.out ?c3 ?c4 ?c5 ?_)
            case c3 => have := HU.out; unfold maxLen; omega
            case c4 => have := HU.out; omega
            case c5 => have := heap_lt HMj.out.box; simp; omega
            intro v' w5 hown5 hgrow _
            obtain ⟨Av, nv, cv, rfl⟩ : ∃ A n c, v' = .slice A n c := by
              rcases hown5.2 with ⟨rfl, _⟩ | ⟨g, cap, cur, rfl, _⟩
              · exact ⟨_, _, _, rfl⟩
              · exact ⟨_, _, _, rfl⟩
            have HN := Lib.hid (HMj.out.next hown5 hgrow)
            rw [← HS.out] at HN
            have hq := HMj.out.box5 hgrow
            have hcb5 := cell_of_row w5 _ 0 _ _ _ hq
            have hfb5 := frozen_of_row w5 _ 0 _ _ hq
            clear hown5 hgrow hq hcb hfb
            go_wp2_with fail
            go_roundw
            case rel => exact ⟨j + 1, _, us ++ [rowV wr.heap.size], by omega, by go_num, by simp [HU.out], HN⟩
            case measure => (simp [intOf] <;> omega)
        · obtain rfl : j = m + 1 := by omega
          have HD := Lib.hid HMj.out.done
          have p1 := HMj.out.res.1
          have p2 := HMj.out.res.2.1
          have hjm : decide ((m : Int) + 1 ≤ (m : Int)) = false := decide_eq_false (by omega)
          go_wp2_with fail
          exact bodyPost_ret (v := .tuple #[.agg #[.slice A n c], .bool true]) (by simp [results, Try.results20, go_sem, p1]) rfl ⟨_, us, rfl, HD.out⟩
    · have hok : rgOk a b = false := decide_eq_false fun h => ha h.2
      have HV : Hid (rgG a b = []) := by show _ = _; unfold rgG; rw [hok]; rfl
      rw [hok, HV.out]
      have HA := Lib.hid ha
      obtain ⟨b0, b10⟩ := hb
      clear ha hok
      go_enter Try.func20, Try.ntmps20
      go_wp2_with fail
      refine (l00In_yes _ _ _ _ b0 b10).mono ?_; rintro e w' ⟨rfl, rfl⟩
      go_wp2_with fail
      refine (l00In_no _ _ _ _ HA.out).mono ?_; rintro e w' ⟨rfl, rfl⟩
      go_wp2_with fail
      exact bodyPost_ret (v := .tuple #[.agg #[.slice none 0 0], .bool false]) (by simp [results, Try.results20, go_sem]) rfl ⟨_, [], rfl, OwnG.nil _ _, HB0.out⟩
  · have hok : rgOk a b = false := decide_eq_false fun h => hb h.1
    have HV : Hid (rgG a b = []) := by show _ = _; unfold rgG; rw [hok]; rfl
    rw [hok, HV.out]
    have HA := Lib.hid hb
    clear hb hok
    go_enter Try.func20, Try.ntmps20
    go_wp2_with fail
    refine (l00In_no _ _ _ _ HA.out).mono ?_; rintro e w' ⟨rfl, rfl⟩
    go_wp2_with fail
    exact bodyPost_ret (v := .tuple #[.agg #[.slice none 0 0], .bool false]) (by simp [results, Try.results20, go_sem]) rfl ⟨_, [], rfl, OwnG.nil _ _, HB0.out⟩
set_option maxHeartbeats 1600000 in
set_option maxRecDepth 100000 in
theorem sumGraph_spec (w : World) (b : Int) :
    Calls Try.prog 24 #[.int .i64 b] w fun e w' => ∃ v us, e = .returned (.tuple #[.agg #[v], .bool (sgOk b)]) ∧ OwnG w' w.heap.size w'.heap.size v us (sgG b) ∧ Below w.heap.size w w' := by
  have HB0 : Hid (Below w.heap.size w (w.alloc (.cells #[.slice none 0 0] 27))) := (Below.refl _ _).alloc (Nat.le_refl _) _
  obtain ⟨i0, hi, hz0, hz1, hz2⟩ := info_parts Try.infoRow
  by_cases hb : 1 ≤ b ∧ b ≤ 11
  · have hok : sgOk b = true := decide_eq_true hb
    have HV : Hid (sgG b = rowsOf sgE0 (sgE1 b.toNat) (b.toNat + 1)) := by show _ = _; unfold sgG; rw [if_pos hok]
    rw [hok, HV.out]
    clear HV hok
    obtain ⟨b0, b10⟩ := hb
    obtain ⟨m, rfl⟩ := Int.eq_ofNat_of_zero_le (show 0 ≤ b by omega)
    rw [Int.toNat_natCast]
    have HF := Lib.hid (ML.first w)
    go_enter Try.func24, Try.ntmps24
    go_wp2_with fail
    refine (l00In_yes _ _ _ _ b0 b10).mono ?_; rintro e w' ⟨rfl, rfl⟩
    go_wp2_with fail
    go_loopw [5] (fun i wr => ∃ (j : Nat) (v : Value) (us : List Value), j ≤ m + 1 ∧ i = .int .i64 j ∧ us.length = j ∧ Hid (ML w wr v us (rowsOf sgE0 (sgE1 m) j))) (fun i _ => m + 1 - (intOf i).toNat)
    case atStart => exact ⟨0, _, [], Nat.zero_le _, rfl, rfl, HF⟩
    case round =>
      obtain ⟨j, v, us, hj, rfl, hus, HMj⟩ := hrel
      clear HF HB0
      obtain ⟨A, n, c, rfl⟩ : ∃ A n c, v = .slice A n c := by
        rcases HMj.out.row.2 with ⟨rfl, _⟩ | ⟨g, cap, cur, rfl, _⟩
        · exact ⟨_, _, _, rfl⟩
        · exact ⟨_, _, _, rfl⟩
      have hcb := cell_of_row wr _ 0 _ _ _ HMj.out.box
      have hfb := frozen_of_row wr _ 0 _ _ HMj.out.box
      by_cases hlt : j < m + 1
      · have hj0 : (0 : Int) ≤ (j : Int) := by omega
        have hj1 : (j : Int) ≤ (m : Int) := by omega
        have hj2 : j ≤ m := by omega
        have t2 : IntKind.i64.wrap ((j : Int) + 1) = (j : Int) + 1 := IntWalk.i64_in _ (by omega)
        have HS := Lib.hid (rowsOf_succ sgE0 (sgE1 m) j)
        have HU := Lib.hid hus
        have HR2 := Lib.hid (two_row HMj.out)
        have HC := Lib.hid (two_src wr)
        have H1 : Hid (∀ u ∈ [rowV wr.heap.size], u.oneCell' = true) := by
          show ∀ u ∈ _, _
          intro u hu; simp at hu; subst hu; rfl
        clear hus
        have t3 : IntKind.i64.wrap ((j : Int) - 1) = (j : Int) - 1 := IntWalk.i64_in _ (by omega)
        by_cases d1 : j = m
        all_goals
          first
            | (have V1 : Hid (sgE1 m j = (j : Int) + 1) := if_pos (by omega))
            | (have V1 : Hid (sgE1 m j = -1) := if_neg (by omega))
          rw [V1.out, show sgE0 j = (j : Int) - 1 from rfl] at HS
          first
            | subst d1
            | (have d2 : decide ((j : Int) = (m : Int)) = false := decide_eq_false (by omega))
          go_wp2_with (refine wpList_append_own _ rfl _ _ 22 rfl (w.heap.size + 1) 46 i0 (.slice none 0 0) 1 24 Try.underlying22 hi hz0 hz1 hz2 rfl (by decide) _ _ _ rfl (HR2.out _ _) ⟨wr.heap.size + 1, 0, none⟩ 1 1 [rowV wr.heap.size] rfl rfl (HC.out _ _) H1.out ?c3 ?c4 ?c5 ?_)
          case c3 => have := HU.out; unfold maxLen; omega
          case c4 => have := HU.out; omega
          case c5 => have := heap_lt HMj.out.box; simp; omega
          intro v' w5 hown5 hgrow _
          obtain ⟨Av, nv, cv, rfl⟩ : ∃ A n c, v' = .slice A n c := by
            rcases hown5.2 with ⟨rfl, _⟩ | ⟨g, cap, cur, rfl, _⟩
            · exact ⟨_, _, _, rfl⟩
            · exact ⟨_, _, _, rfl⟩
          have HN := Lib.hid (HMj.out.next hown5 hgrow)
          rw [← HS.out] at HN
          have hq := HMj.out.box5 hgrow
          have hcb5 := cell_of_row w5 _ 0 _ _ _ hq
          have hfb5 := frozen_of_row w5 _ 0 _ _ hq
          clear hown5 hgrow hq hcb hfb
          go_wp2_with fail
          go_roundw
          case rel => exact ⟨j + 1, _, us ++ [rowV wr.heap.size], by omega, by go_num, by simp [HU.out], HN⟩
          case measure => (simp [intOf] <;> omega)
      · obtain rfl : j = m + 1 := by omega
        have HD := Lib.hid HMj.out.done
        have p1 := HMj.out.res.1
        have p2 := HMj.out.res.2.1
        have hjm : decide ((m : Int) + 1 ≤ (m : Int)) = false := decide_eq_false (by omega)
        go_wp2_with fail
        exact bodyPost_ret (v := .tuple #[.agg #[.slice A n c], .bool true]) (by simp [results, Try.results24, go_sem, p1]) rfl ⟨_, us, rfl, HD.out⟩
  · have hok : sgOk b = false := decide_eq_false hb
    have HV : Hid (sgG b = []) := by show _ = _; unfold sgG; rw [hok]; rfl
    rw [hok, HV.out]
    have HA := Lib.hid hb
    clear hb hok
    go_enter Try.func24, Try.ntmps24
    go_wp2_with fail
    refine (l00In_no _ _ _ _ HA.out).mono ?_; rintro e w' ⟨rfl, rfl⟩
    go_wp2_with fail
    exact bodyPost_ret (v := .tuple #[.agg #[.slice none 0 0], .bool false]) (by simp [results, Try.results24, go_sem]) rfl ⟨_, [], rfl, OwnG.nil _ _, HB0.out⟩
end Go.Proofs.Ytnllllpdjfbedaa
