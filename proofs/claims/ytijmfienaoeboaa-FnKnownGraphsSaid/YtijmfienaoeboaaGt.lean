/- Contracts of the program's tables of graphs: tableOf, tableFrom. -/
import Derived.Test.YtijmfienaoeboaaGc
import Derived.Test.YtijmfienaoeboaaTb
namespace Go.Proofs.Ytijmfienaoeboaa
open Go Go.RowKit
set_option linter.unusedVariables false

/-- The edges of a graph, row by row. -/
def edgesL (g : List (List Int)) : List Int := g.flatMap fun r => [r.getD 0 0, r.getD 1 0]
theorem edgesL_len (g : List (List Int)) : (edgesL g).length = 2 * g.length := by
  induction g with
  | nil => rfl
  | cons r g ih => simp [edgesL] at *; omega
theorem edgesL_snoc (g : List (List Int)) (r : List Int) : edgesL (g ++ [r]) = edgesL g ++ [r.getD 0 0, r.getD 1 0] := by simp [edgesL]
/-- The cells of a table of n states with some rows. -/
def tabL (n : Nat) (g : List (List Int)) : List Value := .int .i64 n :: (edgesL g ++ List.replicate (24 - 2 * g.length) 0).map (Value.int .i64)
theorem tabL_len (n : Nat) (g : List (List Int)) (h : g.length ≤ 12) : (tabL n g).length = 25 := by simp [tabL, edgesL_len]; omega
theorem tabL_zero (n : Nat) : tabL n [] = .int .i64 n :: List.replicate 24 (.int .i64 0) := by simp [tabL, edgesL]
theorem tabL_splice (n : Nat) (g : List (List Int)) (r : List Int) (h : g.length < 12) : splice (tabL n g) (1 + 2 * g.length) [.int .i64 (r.getD 0 0), .int .i64 (r.getD 1 0)] = tabL n (g ++ [r]) := by
  unfold splice tabL
  rw [edgesL_snoc]
  obtain ⟨m, hm⟩ : ∃ m, 24 - 2 * g.length = m + 2 := ⟨24 - 2 * g.length - 2, by omega⟩
  rw [hm, show 24 - 2 * (g ++ [r]).length = m from by simp; omega, show 1 + 2 * g.length = 2 * g.length + 1 from by omega, List.take_succ_cons]
  have e := edgesL_len g
  have e1 : (edgesL g ++ List.replicate (m + 2) 0).map (Value.int .i64) = (edgesL g).map (Value.int .i64) ++ (Value.int .i64 0 :: Value.int .i64 0 :: List.replicate m (Value.int .i64 0)) := by simp [List.replicate_succ]
  rw [e1, List.take_left' (by simp [e]), List.length_cons, List.length_cons, List.length_nil, show 2 * g.length + 1 + (0 + 1 + 1) = (2 * g.length + 2) + 1 from by omega, List.drop_succ_cons]
  have e2 : ((edgesL g).map (Value.int .i64) ++ (Value.int .i64 0 :: Value.int .i64 0 :: List.replicate m (Value.int .i64 0))).drop (2 * g.length + 2) = List.replicate m (Value.int .i64 0) := by
    rw [List.drop_append, List.drop_of_length_le (by simp; omega)]
    simp [e, List.drop_succ_cons]
  rw [e2]
  simp
theorem tabL_one (n : Nat) (g : List (List Int)) : ∀ v ∈ tabL n g, v.oneCell' = true := by
  intro v hv
  simp only [tabL, List.mem_cons, List.mem_map] at hv
  rcases hv with rfl | ⟨x, -, rfl⟩ <;> rfl
theorem tabL_all (n : Nat) (g : List (List Int)) : (tabL n g).toArray.all (·.oneCell') = true := by
  rw [Array.all_eq_true_iff_forall_mem]
  intro v hv
  exact tabL_one n g v (by simpa using hv)
def zeroA : Array Value := (List.replicate 25 (Value.int .i64 0)).toArray
theorem zeroA_all : zeroA.all (·.oneCell') = true := by
  rw [Array.all_eq_true_iff_forall_mem]
  intro v hv
  have : v = .int .i64 0 := by simpa [zeroA, List.mem_replicate] using hv
  rw [this]; rfl
/-- What tableOf holds in its round: the graph, the result's block, the table. -/
def T3 (w wr : World) (v : Value) (cur : List Value) : Prop :=
  OneC wr w.heap.size v ∧ wr.heap[w.heap.size + 1]? = some (.cells zeroA 132 (0, 0)) ∧ wr.heap[w.heap.size + 1 + 1]? = some (.cells cur.toArray 132 (0, 0)) ∧ Below w.heap.size w wr ∧ w.heap.size + 1 + 1 < wr.heap.size
theorem T3.keep {w wr w' : World} {v : Value} {cur : List Value} (h : T3 w wr v cur) (hb : Below wr.heap.size wr w') : T3 w w' v cur := by
  obtain ⟨h1, h2, h3, h4, h5⟩ := h
  exact ⟨h1.keep hb, (hb.block _ (by omega)).trans h2, (hb.block _ h5).trans h3, h4.trans (hb.mono h4.size), Nat.lt_of_lt_of_le h5 hb.size⟩
theorem OneC.below {W W' : World} {b B : Nat} {x : Value} (h : OneC W b x) (hb : Below B W W') (hB : b < B) : OneC W' b x :=
  ⟨(hb.cell (p := ⟨b, 0, none⟩) hB).trans h.1, (hb.frozen (p := ⟨b, 0, none⟩) hB).trans h.2.1, Nat.lt_of_lt_of_le h.2.2 hb.size⟩
theorem T3.put {w wr w' : World} {v : Value} {cur cur' : List Value} (h : T3 w wr v cur) (hb : Below (w.heap.size + 1 + 1) wr w') (hg : w'.heap[w.heap.size + 1 + 1]? = some (.cells cur'.toArray 132 (0, 0))) : T3 w w' v cur' := by
  obtain ⟨h1, h2, h3, h4, h5⟩ := h
  exact ⟨h1.below hb (by omega), (hb.block _ (by omega)).trans h2, hg, h4.trans (hb.mono (by omega)), Nat.lt_of_lt_of_le h5 hb.size⟩

/-- What tableOf answers. -/
def tabA (g : List (List Int)) : Array Value := if isG g = true then (tabL g.length g).toArray else zeroA

theorem infoI : (Try.prog.info? 2).map (·.size) = some 1 := by kernel_rfl
theorem info64 : (Try.prog.info? 132).map (·.size) = some 25 := by kernel_rfl

set_option maxHeartbeats 1600000 in
set_option maxRecDepth 100000 in
theorem tableOf_any (w : World) (v : Value) (g : List (List Int)) (h : RdG w v g) :
    Calls Try.prog 111 #[.agg #[v]] w fun e w' => e = .returned (.tuple #[.agg (tabA g), .bool (isG g)]) ∧ Below w.heap.size w w' := by
  have hlen := h.len
  have HG := Lib.hid h
  obtain ⟨A, n, c, rfl, hn, -, -, r⟩ := h
  have hnl : n ≤ 9223372036854775807 := by unfold maxLen at hlen; omega
  have HN := Lib.hid hn
  have HR := Lib.hid r
  clear hlen hn r
  by_cases h12 : 1 ≤ n ∧ n ≤ 12
  · have HB : Hid (∀ (k : Nat) (h : k < g.length), okRow n g[k] = false → isG g = false ∧ tabA g = zeroA) := by
      show ∀ (k : Nat) (h : k < g.length), _
      intro k h hb
      have e := isG_bad g k h (by rw [HN.out]; exact hb)
      exact ⟨e, by unfold tabA; rw [if_neg (by rw [e]; decide)]⟩
    have HA : Hid (g.all (okRow n) = true → isG g = true ∧ tabA g = (tabL n g).toArray) := by
      show _ → _
      intro ha
      have e := isG_all g (by rw [HN.out]; exact h12) (by rw [HN.out]; exact ha)
      exact ⟨e, by unfold tabA; rw [if_pos e, HN.out]⟩
    obtain ⟨n1, n2⟩ := h12
    generalize isG g = V at *
    generalize tabA g = T at *
    go_enter Try.func111, Try.ntmps111
    go_wp2_with fail
    refine (btwI_yes _ _ _ _ (by omega) (by omega)).mono ?_; rintro e w' ⟨rfl, rfl⟩
    go_wp2_with (refine wpList_store_abs rfl 132 (.tmp 4) (.tmp 16) rfl _ _ rfl rfl 132 _ (heap_alloc_at _ _ _ (by simp)) info64 rfl ?h1 ?_)
    case h1 => exact tabL_all n []
    intro w3 hg3 hb3 hz3
    have HT : Hid (T3 w w3 (.slice A n c) (tabL n [])) := by
      show T3 _ _ _ _
      have hb := hb3.out
      have o1 := ((OneC.new w (.slice A n c) 60).alloc (.cells zeroA 132)).alloc (.cells zeroA 132)
      have q1 : (((w.alloc (.cells #[.slice A n c] 60)).alloc (.cells zeroA 132)).alloc (.cells zeroA 132)).heap[w.heap.size + 1]? = some (.cells zeroA 132 (0, 0)) := by
        exact (Below.heap_alloc _ _ _ (by simp)).trans (heap_alloc_at _ _ _ (by simp))
      refine ⟨o1.below hb (by omega), (hb.block _ (by omega)).trans q1, hg3.out, ?_, ?_⟩
      · exact ((((Below.refl _ _).alloc (Nat.le_refl _) _).alloc (by simp) _).alloc (by simp; omega) _).trans (hb.mono (by omega))
      · have h6 : w3.heap.size = _ := hz3.out
        rw [h6]; omega
    have hc3 := HT.out.1.1
    clear hg3 hb3 hz3
    go_wp2_with fail
    clear hc3
    go_loopw [20] (fun i wr => ∃ k : Nat, k ≤ n ∧ i = .int .i64 k ∧ Hid (T3 w wr (.slice A n c) (tabL n (g.take k))) ∧ (g.take k).all (okRow n) = true) (fun i _ => n - (intOf i).toNat)
    case atStart => exact ⟨0, Nat.zero_le _, rfl, HT, rfl⟩
    case round =>
      obtain ⟨k, hk, rfl, HT', hall⟩ := hrel
      clear HT
      have HI : Hid ((Try.prog.info? 132).map (·.size) = some (tabL n (g.take k)).toArray.size) := by
        show _ = _
        rw [info64, List.size_toArray, tabL_len _ _ (by rw [List.length_take]; omega)]
      have HI2 : Hid (zeroA.size = (tabL n (g.take k)).toArray.size) := by
        show _ = _
        have e : (tabL n (g.take k)).toArray.size = 25 := by rw [List.size_toArray, tabL_len _ _ (by rw [List.length_take]; omega)]
        rw [e]; rfl
      by_cases hlt : k < n
      · obtain ⟨b1, o1, rfl, hlt0, hc⟩ := HR.out (by omega)
        have hkl : k < g.length := by have := HN.out; omega
        obtain ⟨u, hc0', hrd⟩ := hc k hkl
        have hc0 := (HT'.out.2.2.2.1.cell (p := ⟨b1, o1 + k, none⟩) hlt0).trans hc0'
        have HRD := Lib.hid (hrd.keep HT'.out.2.2.2.1)
        have HB2 := Lib.hid (HB.out k hkl)
        have HS2 := Lib.hid (fun hr => all_snoc (n := n) hkl hall hr)
        have HTK : Hid (g.take (k + 1) = g.take k ++ [g[k]]) := List.take_succ_eq_append_getElem hkl
        have HLK : Hid ((g.take k).length = k) := by show _ = _; rw [List.length_take]; omega
        have hk0 : (0 : Int) ≤ (k : Int) := by omega
        have hk1 : (k : Int) < (n : Int) := by omega
        clear hc hrd hall hc0'
        generalize g[k] = row at *
        go_wp2_with (refine wpList_load_row rfl 132 (.tmp 4) rfl _ rfl 132 _ (0, 0) _ HT'.out.2.2.1 Try.underlying132 rfl HI.out ?_)
        refine (canHave_any _ _ n u row n1 n2 (by simp [tabL]) HRD.out).mono ?_; rintro e w5 ⟨rfl, hb5⟩
        have HT5 := Lib.hid (HT'.out.keep hb5)
        have HRD5 := Lib.hid (HRD.out.keep hb5)
        clear hb5 hc0
        cases hok : okRow n row
        · have HV := Lib.hid (HB2.out hok)
          clear hok
          go_wp2_with (refine wpList_store_abs rfl 132 (.tmp 2) (.tmp 29) rfl _ _ rfl rfl 132 _ HT5.out.2.1 info64 rfl ?h1 ?_)
          case h1 => exact zeroA_all
          intro w6 hg6 hb6 hz6
          go_wp2_with fail
          refine bodyPost_ret (v := .tuple #[.agg zeroA, .bool false]) (results_cell_tmp Try.results111 _ _ (w.heap.size + 1) 132 zeroA (0, 0) _ rfl hg6.out Try.underlying132 rfl info64) rfl ⟨by rw [HV.out.1, HV.out.2], ?_⟩
          exact HT5.out.2.2.2.1.trans (hb6.out.mono (by omega))
        · have HV := Lib.hid (HS2.out hok)
          have h2 : row.length = 2 := by unfold okRow at hok; exact (of_decide_eq_true hok).1
          obtain ⟨b2, o2, c2, rfl, -, e0, e1⟩ := rd_two HRD5.out h2
          have HP : Hid (∀ (j : Nat) (v : Value), [Value.int .i64 (row.getD 0 0), Value.int .i64 (row.getD 1 0)][j]? = some v → w5.cell? ((⟨b2, o2, none⟩ : Addr).add j) = some v) := by
            show ∀ (j : Nat) (v : Value), _
            have hadd : ∀ i, (⟨b2, o2, none⟩ : Addr).add i = ⟨b2, o2 + i, none⟩ := fun i => by unfold Addr.add; split <;> simp_all
            intro j v hj
            rw [hadd]
            match j, hj with
            | 0, hj => simp at hj; subst hj; exact e0
            | 1, hj => simp at hj; subst hj; exact e1
          have HF : Hid (1 + k * 2 + 2 ≤ (tabL n (g.take k)).length) := by show _ ≤ _; rw [tabL_len _ _ (by rw [HLK.out]; omega)]; omega
          have HSP := tabL_splice n (g.take k) row (by rw [HLK.out]; omega)
          rw [HLK.out, show 1 + 2 * k = 1 + k * 2 from by omega, ← HTK.out] at HSP
          have HSP2 := Lib.hid HSP
          clear hok h2 e0 e1 HSP HRD HRD5 HB2 HS2 HTK
          generalize row.getD 0 0 = x at *
          generalize row.getD 1 0 = y at *
          go_wp2_with (refine wpList_copy_splice rfl (.tmp 33) (.tmp 34) 32 32 rfl 2 Try.underlying32 infoI _ _ 2 2 2 c2 rfl rfl (w.heap.size + 1 + 1) (1 + k * 2) (tabL n (g.take k)) 132 HT5.out.2.2.1 [.int .i64 x, .int .i64 y] rfl (fun _ => ⟨rfl, _, rfl, HP.out⟩) HF.out (by intro v hv; simp at hv; rcases hv with rfl | rfl <;> rfl) (w.heap.size + 1 + 1) w5 (Below.refl _ _) (Nat.le_refl _) ?_)
          intro w6 hg6 hb6
          rw [HSP2.out] at hg6
          have HT6 := Lib.hid (HT5.out.put hb6 hg6.out)
          clear hg6 hb6
          go_wp2_with fail
          go_roundw
          case rel => exact ⟨k + 1, by omega, by go_num, HT6, HV.out⟩
          case measure => simp [intOf]; omega
      · obtain rfl : k = n := by omega
        have HV : Hid (V = true ∧ T = (tabL k g).toArray) := by
          show _ ∧ _
          rw [List.take_of_length_le (by have := HN.out; omega)] at hall
          exact HA.out hall
        clear hall
        have HFULL : Hid (g.take k = g) := List.take_of_length_le (by have := HN.out; omega)
        go_wp2_with (first | (refine wpList_load_row rfl 132 (.tmp 4) rfl _ rfl 132 _ (0, 0) _ HT'.out.2.2.1 Try.underlying132 rfl HI.out ?_) | (refine wpList_store_abs rfl 132 (.tmp 2) (.tmp 37) rfl _ _ rfl rfl 132 _ HT'.out.2.1 HI.out (HI2.out) (tabL_all _ _) ?_))
        intro w6 hg6 hb6 hz6
        go_wp2_with fail
        refine bodyPost_ret (v := .tuple #[.agg (tabL k (g.take k)).toArray, .bool true]) (results_cell_tmp Try.results111 _ _ (w.heap.size + 1) 132 _ (0, 0) _ rfl hg6.out Try.underlying132 rfl HI.out) rfl ⟨by rw [HV.out.1, HV.out.2, HFULL.out], ?_⟩
        exact HT'.out.2.2.2.1.trans (hb6.out.mono (by omega))
  · have hv : isG g = false := isG_len g (by rw [HN.out]; exact h12)
    have HV : Hid (tabA g = zeroA) := by show _ = _; unfold tabA; rw [if_neg (by rw [hv]; decide)]
    have H12 : Hid (¬ ((1 : Int) ≤ (n : Int) ∧ (n : Int) ≤ 12)) := fun e => h12 (by omega)
    rw [hv]
    clear h12 hv
    go_enter Try.func111, Try.ntmps111
    go_wp2_with fail
    refine (btwI_no _ _ _ _ H12.out).mono ?_; rintro e w' ⟨rfl, rfl⟩
    go_wp2_with (refine wpList_store_abs rfl 132 (.tmp 2) (.tmp 12) rfl _ _ rfl rfl 132 _ (heap_alloc_at _ _ _ (by simp)) info64 rfl ?h1 ?_)
    case h1 => exact zeroA_all
    intro w6 hg6 hb6 hz6
    go_wp2_with fail
    refine bodyPost_ret (v := .tuple #[.agg zeroA, .bool false]) (results_cell_tmp Try.results111 _ _ (w.heap.size + 1) 132 zeroA (0, 0) _ rfl hg6.out Try.underlying132 rfl info64) rfl ⟨by rw [HV.out], ?_⟩
    exact (((Below.refl _ _).alloc (Nat.le_refl _) _).alloc (by simp) _).trans (hb6.out.mono (by omega))
end Go.Proofs.Ytijmfienaoeboaa
