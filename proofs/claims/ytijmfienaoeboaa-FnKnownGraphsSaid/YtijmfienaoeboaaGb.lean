/- Contracts of both StateBehind and IsAllowed. -/
import Derived.Test.YtijmfienaoeboaaGv
import Derived.Test.YtijmfienaoeboaaBits
import Derived.Deep.QuietTactic
import Derived.BigQuiet
namespace Go.Proofs.Ytijmfienaoeboaa
open Go Go.RowKit
set_option linter.unusedVariables false

/-- Whether a graph is valid and a number is a state of it. -/
def okSt (g : List (List Int)) (x : Int) : Bool := isG g && decide (0 ≤ x ∧ x ≤ (g.length : Int) - 1)
/-- The state to which a bit leads. -/
def edge (g : List (List Int)) (x : Int) (c : UInt8) : Int := (g.getD x.toNat []).getD (c.toNat - 48) 0
def stepG (g : List (List Int)) (x : Int) (c : UInt8) : Int := if x < 0 then x else edge g x c
def runG (g : List (List Int)) (x : Int) (l : List UInt8) : Int := l.foldl (stepG g) x
theorem runG_snoc (g : List (List Int)) (x : Int) (l : List UInt8) (c : UInt8) : runG g x (l ++ [c]) = stepG g (runG g x l) c := by simp [runG, List.foldl_append]
theorem runG_neg (g : List (List Int)) : ∀ (l : List UInt8) (x : Int), x < 0 → runG g x l = x
  | [], x, h => rfl
  | c :: l, x, h => by
    have e : stepG g x c = x := by unfold stepG; rw [if_pos h]
    show runG g (stepG g x c) l = x
    rw [e]; exact runG_neg g l x h
theorem runG_cut (g : List (List Int)) (x : Int) (l : List UInt8) (k : Nat) (h : runG g x (l.take k) < 0) : runG g x l = runG g x (l.take k) := by
  have e : runG g x l = runG g (runG g x (l.take k)) (l.drop k) := by
    show l.foldl (stepG g) x = _
    unfold runG
    rw [← List.foldl_append, List.take_append_drop]
  rw [e, runG_neg g _ _ h]
theorem isG_row {g : List (List Int)} (h : isG g = true) (k : Nat) (hk : k < g.length) : okRow g.length g[k] = true := by
  unfold isG at h
  have := (Bool.and_eq_true_iff.1 h).2
  rw [List.all_eq_true] at this
  exact this _ (List.getElem_mem hk)
theorem isG_le {g : List (List Int)} (h : isG g = true) : 1 ≤ g.length ∧ g.length ≤ 12 := by
  unfold isG at h
  exact of_decide_eq_true (Bool.and_eq_true_iff.1 h).1
theorem okRow_parts {n : Nat} {r : List Int} (h : okRow n r = true) : r.length = 2 ∧ (-1 ≤ r.getD 0 0 ∧ r.getD 0 0 ≤ (n : Int) - 1) ∧ (-1 ≤ r.getD 1 0 ∧ r.getD 1 0 ≤ (n : Int) - 1) ∧ ¬ (r.getD 0 0 < 0 ∧ r.getD 1 0 < 0) := of_decide_eq_true h
/-- A state, or none, leads to a state, or none. -/
theorem edge_bd {g : List (List Int)} (h : isG g = true) (x : Nat) (hx : x < g.length) (c : UInt8) (hc : (c.toNat : Int) = 48 ∨ (c.toNat : Int) = 49) : -1 ≤ edge g x c ∧ edge g x c ≤ (g.length : Int) - 1 := by
  have hr := okRow_parts (isG_row h x hx)
  unfold edge
  rw [Int.toNat_natCast, List.getD_eq_getElem?_getD (l := g), List.getElem?_eq_getElem hx, Option.getD_some]
  rcases hc with e | e
  · rw [show c.toNat - 48 = 0 from by omega]; exact hr.2.1
  · rw [show c.toNat - 48 = 1 from by omega]; exact hr.2.2.1

/-- The cells of a row of a valid graph, for a state. -/
theorem rdg_at {w : World} {v : Value} {g : List (List Int)} (h : RdG w v g) (hg : isG g = true) (x : Nat) (hx : x < g.length) :
    ∃ b o n c b2 o2 c2, v = .slice (some ⟨b, o, none⟩) n c ∧ g.length = n ∧ w.cell? ⟨b, o + x, none⟩ = some (.slice (some ⟨b2, o2, none⟩) 2 c2) ∧ w.cell? ⟨b2, o2, none⟩ = some (.int .i64 (g[x].getD 0 0)) ∧ w.cell? ⟨b2, o2 + 1, none⟩ = some (.int .i64 (g[x].getD 1 0)) := by
  obtain ⟨A, n, c, rfl, hn, -, -, r⟩ := h
  obtain ⟨b, o, rfl, -, hc⟩ := r (by omega)
  obtain ⟨u, hu, hr⟩ := hc x hx
  obtain ⟨b2, o2, c2, rfl, -, e0, e1⟩ := rd_two hr (okRow_parts (isG_row hg x hx)).1
  exact ⟨b, o, n, c, b2, o2, c2, rfl, hn, hu, e0, e1⟩

/-- What StateBehind answers. -/
def sbOk (g : List (List Int)) (x : Int) (l : List UInt8) : Bool := okSt g x && isB l && decide (0 ≤ runG g x l)
def sbV (g : List (List Int)) (x : Int) (l : List UInt8) : Int := if sbOk g x l = true then runG g x l else 0
theorem okSt_parts {g : List (List Int)} {x : Int} (h : okSt g x = true) : isG g = true ∧ 0 ≤ x ∧ x ≤ (g.length : Int) - 1 := by
  unfold okSt at h
  have h1 := Bool.and_eq_true_iff.1 h
  exact ⟨h1.1, of_decide_eq_true h1.2⟩
theorem isB_parts {l : List UInt8} (h : isB l = true) : l.length ≤ 400 ∧ inR 48 49 l = true := by
  unfold isB at h
  have h1 := Bool.and_eq_true_iff.1 h
  exact ⟨of_decide_eq_true h1.1, h1.2⟩

def tabF (g : List (List Int)) (x : Int) : Array Value := if okSt g x = true then (tabL g.length g).toArray else zeroA
theorem tabF_size (g : List (List Int)) (x : Int) : (tabF g x).size = 25 := by
  unfold tabF
  split
  · rename_i h
    rw [List.size_toArray, tabL_len _ _ (isG_le (okSt_parts h).1).2]
  · rfl
theorem tabF_all (g : List (List Int)) (x : Int) : (tabF g x).all (·.oneCell') = true := by
  unfold tabF
  split
  · exact tabL_all _ _
  · exact zeroA_all
theorem tabA_at0 (g : List (List Int)) (h : isG g = true) : (tabA g)[0]? = some (.int .i64 (g.length : Int)) := by
  unfold tabA; rw [if_pos h]; rfl

set_option maxHeartbeats 1000000 in
set_option maxRecDepth 100000 in
theorem tableFrom_any (w : World) (v : Value) (g : List (List Int)) (x : Int) (h : RdG w v g) :
    Calls Try.prog 151 #[.agg #[v], .int .i64 x] w fun e w' => e = .returned (.tuple #[.agg (tabF g x), .bool (okSt g x)]) ∧ Below w.heap.size w w' := by
  obtain ⟨A, n, c, rfl⟩ := rdg_sh h
  have H := Lib.hid ((h.keep ((Below.refl _ _).alloc (Nat.le_refl _) (.cells #[.slice A n c] 60))).keep ((Below.refl _ _).alloc (Nat.le_refl _) (.cells zeroA 132)))
  have HQ : Hid (((w.alloc (.cells #[.slice A n c] 60)).alloc (.cells zeroA 132)).heap[w.heap.size + 1]? = some (.cells zeroA 132 (0, 0))) := heap_alloc_at _ _ _ (by simp)
  have HS : Hid ((Try.prog.info? 132).map (·.size) = some (tabA g).size) := by show _ = _; rw [info64, tabA_size]
  have HS2 : Hid (zeroA.size = (tabA g).size) := by show _ = _; rw [tabA_size]; rfl
  clear h
  have HB0 : Hid (Below w.heap.size w ((w.alloc (.cells #[.slice A n c] 60)).alloc (.cells zeroA 132))) := ((Below.refl _ _).alloc (Nat.le_refl _) _).alloc (by simp) _
  have HZ0 : Hid (((w.alloc (.cells #[.slice A n c] 60)).alloc (.cells zeroA 132)).heap.size = w.heap.size + 1 + 1) := by show _ = _; simp
  cases hG : isG g
  · have HG := Lib.hid hG
    have hv : okSt g x = false := by unfold okSt; rw [hG]; rfl
    have HV : Hid (tabF g x = zeroA) := by show _ = _; unfold tabF; rw [if_neg (by rw [hv]; decide)]
    rw [hv]
    clear hG hv
    go_enter Try.func151, Try.ntmps151
    go_wp2_with fail
    refine (tableOf_any _ _ g H.out).mono ?_; rintro e w1 ⟨rfl, hb1⟩
    rw [HG.out]
    have HB1 := Lib.hid (HB0.out.trans (hb1.mono HB0.out.size))
    have HQ1 : Hid (w1.heap[w.heap.size + 1]? = some (.cells zeroA 132 (0, 0))) := (hb1.block _ (by have := HZ0.out; omega)).trans HQ.out
    have HZ1 : Hid (w.heap.size + 1 + 1 ≤ w1.heap.size) := by show _ ≤ _; have := hb1.size; have := HZ0.out; omega
    clear hb1
    go_wp2_with (refine wpList_store_abs rfl 132 (.tmp 6) (.tmp 11) rfl _ _ rfl rfl 132 _ (heap_alloc_at _ _ _ rfl) HS.out HS2.out (tabA_all _) ?_)
    intro w2 hg2 hb2 hz2
    have HB2 : Hid (Below w.heap.size w w2) := (HB1.out.alloc HB1.out.size _).trans (hb2.out.mono HB1.out.size)
    have HQ2 : Hid (w2.heap[w.heap.size + 1]? = some (.cells zeroA 132 (0, 0))) := ((hb2.out.block _ (by have := HZ1.out; omega)).trans (Below.heap_alloc _ _ _ (by have := HZ1.out; omega))).trans HQ1.out
    clear hb2 hz2
    go_wp2_with (refine wpList_store_abs rfl 132 (.tmp 4) (.tmp 23) rfl _ _ rfl rfl 132 _ HQ2.out info64 rfl ?h1 ?_)
    case h1 => exact zeroA_all
    intro w6 hg6 hb6 hz6
    go_wp2_with fail
    refine bodyPost_ret (v := .tuple #[.agg zeroA, .bool false]) (results_cell_tmp Try.results151 _ _ (w.heap.size + 1) 132 zeroA (0, 0) _ rfl hg6.out Try.underlying132 rfl info64) rfl ⟨by rw [HV.out], ?_⟩
    exact HB2.out.trans (hb6.out.mono (by omega))
  · have HG := Lib.hid hG
    have hl := isG_le hG
    have HTA : Hid ((tabA g)[0]? = some (.int .i64 (g.length : Int))) := tabA_at0 g hG
    generalize hgl : g.length = m at *
    have t1 : IntKind.i64.wrap ((m : Int) - 1) = (m : Int) - 1 := IntWalk.i64_in _ (by omega)
    by_cases hx : 0 ≤ x ∧ x ≤ (m : Int) - 1
    · have hv : okSt g x = true := by unfold okSt; rw [hG, hgl, decide_eq_true hx]; rfl
      have HV : Hid (tabF g x = tabA g) := by show _ = _; unfold tabF tabA; rw [if_pos hv, if_pos hG]
      rw [hv]
      obtain ⟨x1, x2⟩ := hx
      clear hG hv hgl
      go_enter Try.func151, Try.ntmps151
      go_wp2_with fail
      refine (tableOf_any _ _ g H.out).mono ?_; rintro e w1 ⟨rfl, hb1⟩
      rw [HG.out]
      have HB1 := Lib.hid (HB0.out.trans (hb1.mono HB0.out.size))
      have HQ1 : Hid (w1.heap[w.heap.size + 1]? = some (.cells zeroA 132 (0, 0))) := (hb1.block _ (by have := HZ0.out; omega)).trans HQ.out
      have HZ1 : Hid (w.heap.size + 1 + 1 ≤ w1.heap.size) := by show _ ≤ _; have := hb1.size; have := HZ0.out; omega
      clear hb1
      go_wp2_with (refine wpList_store_abs rfl 132 (.tmp 6) (.tmp 11) rfl _ _ rfl rfl 132 _ (heap_alloc_at _ _ _ rfl) HS.out HS2.out (tabA_all _) ?_)
      intro w2 hg2 hb2 hz2
      have HB2 : Hid (Below w.heap.size w w2) := (HB1.out.alloc HB1.out.size _).trans (hb2.out.mono HB1.out.size)
      have HQ2 : Hid (w2.heap[w.heap.size + 1]? = some (.cells zeroA 132 (0, 0))) := ((hb2.out.block _ (by have := HZ1.out; omega)).trans (Below.heap_alloc _ _ _ (by have := HZ1.out; omega))).trans HQ1.out
      clear hb2 hz2
      have hc0 : w2.cell? ⟨w1.heap.size, 0, none⟩ = some (.int .i64 (m : Int)) := (cell_of_row w2 _ 0 _ _ _ hg2.out).trans HTA.out
      go_wp2_with fail
      refine (btw_yes _ _ _ _ x1 x2).mono ?_; rintro e w' ⟨rfl, rfl⟩
      clear hc0
      go_wp2_with (first | (refine wpList_load_row rfl 132 (.tmp 6) rfl _ rfl 132 _ (0, 0) _ hg2.out Try.underlying132 rfl HS.out ?_) | (refine wpList_store_abs rfl 132 (.tmp 4) (.tmp 24) rfl _ _ rfl rfl 132 _ HQ2.out HS.out HS2.out (tabA_all _) ?_))
      intro w6 hg6 hb6 hz6
      go_wp2_with fail
      refine bodyPost_ret (v := .tuple #[.agg (tabA g), .bool true]) (results_cell_tmp Try.results151 _ _ (w.heap.size + 1) 132 _ (0, 0) _ rfl hg6.out Try.underlying132 rfl HS.out) rfl ⟨by rw [HV.out], ?_⟩
      exact HB2.out.trans (hb6.out.mono (by omega))
    · have hv : okSt g x = false := by unfold okSt; rw [hgl, decide_eq_false hx]; simp
      have HV : Hid (tabF g x = zeroA) := by show _ = _; unfold tabF; rw [if_neg (by rw [hv]; decide)]
      rw [hv]
      have HX := Lib.hid hx
      clear hG hv hgl hx
      go_enter Try.func151, Try.ntmps151
      go_wp2_with fail
      refine (tableOf_any _ _ g H.out).mono ?_; rintro e w1 ⟨rfl, hb1⟩
      rw [HG.out]
      have HB1 := Lib.hid (HB0.out.trans (hb1.mono HB0.out.size))
      have HQ1 : Hid (w1.heap[w.heap.size + 1]? = some (.cells zeroA 132 (0, 0))) := (hb1.block _ (by have := HZ0.out; omega)).trans HQ.out
      have HZ1 : Hid (w.heap.size + 1 + 1 ≤ w1.heap.size) := by show _ ≤ _; have := hb1.size; have := HZ0.out; omega
      clear hb1
      go_wp2_with (refine wpList_store_abs rfl 132 (.tmp 6) (.tmp 11) rfl _ _ rfl rfl 132 _ (heap_alloc_at _ _ _ rfl) HS.out HS2.out (tabA_all _) ?_)
      intro w2 hg2 hb2 hz2
      have HB2 : Hid (Below w.heap.size w w2) := (HB1.out.alloc HB1.out.size _).trans (hb2.out.mono HB1.out.size)
      have HQ2 : Hid (w2.heap[w.heap.size + 1]? = some (.cells zeroA 132 (0, 0))) := ((hb2.out.block _ (by have := HZ1.out; omega)).trans (Below.heap_alloc _ _ _ (by have := HZ1.out; omega))).trans HQ1.out
      clear hb2 hz2
      have hc0 : w2.cell? ⟨w1.heap.size, 0, none⟩ = some (.int .i64 (m : Int)) := (cell_of_row w2 _ 0 _ _ _ hg2.out).trans HTA.out
      go_wp2_with fail
      refine (btw_no _ _ _ _ HX.out).mono ?_; rintro e w' ⟨rfl, rfl⟩
      clear hc0
      go_wp2_with (refine wpList_store_abs rfl 132 (.tmp 4) (.tmp 23) rfl _ _ rfl rfl 132 _ HQ2.out info64 rfl ?h1 ?_)
      case h1 => exact zeroA_all
      intro w6 hg6 hb6 hz6
      go_wp2_with fail
      refine bodyPost_ret (v := .tuple #[.agg zeroA, .bool false]) (results_cell_tmp Try.results151 _ _ (w.heap.size + 1) 132 zeroA (0, 0) _ rfl hg6.out Try.underlying132 rfl info64) rfl ⟨by rw [HV.out], ?_⟩
      exact HB2.out.trans (hb6.out.mono (by omega))

theorem edgesL_at : ∀ (g : List (List Int)) (y : Nat) (h : y < g.length), (edgesL g)[y * 2]? = some (g[y].getD 0 0) ∧ (edgesL g)[y * 2 + 1]? = some (g[y].getD 1 0)
  | r :: g, 0, h => ⟨rfl, rfl⟩
  | r :: g, y + 1, h => by
    have := edgesL_at g y (by simpa using h)
    have e : edgesL (r :: g) = r.getD 0 0 :: r.getD 1 0 :: edgesL g := by simp [edgesL]
    rw [e, show (y + 1) * 2 = y * 2 + 1 + 1 from by omega]
    simpa using this
theorem tabL_at (n : Nat) (g : List (List Int)) (y : Nat) (h : y < g.length) : (tabL n g).toArray[1 + y * 2]? = some (.int .i64 (g[y].getD 0 0)) ∧ (tabL n g).toArray[1 + y * 2 + 1]? = some (.int .i64 (g[y].getD 1 0)) := by
  obtain ⟨h1, h2⟩ := edgesL_at g y h
  have hl := edgesL_len g
  unfold tabL
  rw [show 1 + y * 2 + 1 = (y * 2 + 1) + 1 from by omega, show 1 + y * 2 = y * 2 + 1 from by omega]
  rw [List.getElem?_toArray, List.getElem?_cons_succ, List.getElem?_map, List.getElem?_append_left (by omega), h1, List.getElem?_toArray, List.getElem?_cons_succ, List.getElem?_map, List.getElem?_append_left (by omega), h2]
  exact ⟨rfl, rfl⟩

set_option maxHeartbeats 1600000 in
set_option maxRecDepth 100000 in
theorem stateBehind_impl (w : World) (v : Value) (g : List (List Int)) (x : Int) (s : ByteArray) (h : RdG w v g) (hs : s.size ≤ maxLen) :
    Calls Try.prog 110 #[.agg #[v], .int .i64 x, .string s] w fun e w' => e = .returned (.tuple #[.int .i64 (sbV g x s.data.toList), .bool (sbOk g x s.data.toList)]) ∧ Below w.heap.size w w' := by
  obtain ⟨A, n, c, rfl⟩ := rdg_sh h
  have H := Lib.hid (h.keep ((Below.refl _ _).alloc (Nat.le_refl _) (.cells #[.slice A n c] 60)))
  have HB0 : Hid (Below w.heap.size w (w.alloc (.cells #[.slice A n c] 60))) := (Below.refl _ _).alloc (Nat.le_refl _) _
  have HS := Lib.hid hs
  have HI : Hid ((Try.prog.info? 132).map (·.size) = some (tabF g x).size) := by show _ = _; rw [info64, tabF_size]
  have HI2 : Hid (zeroA.size = (tabF g x).size) := by show _ = _; rw [tabF_size]; rfl
  clear h hs
  cases h1 : okSt g x
  · have HV : Hid (sbOk g x s.data.toList = false ∧ sbV g x s.data.toList = 0) := by
      have e : sbOk g x s.data.toList = false := by unfold sbOk; rw [h1]; rfl
      exact ⟨e, by unfold sbV; rw [if_neg (by rw [e]; decide)]⟩
    rw [HV.out.1, HV.out.2]
    have H1 := Lib.hid h1
    clear h1
    go_enter Try.func110, Try.ntmps110
    go_wp2_with fail
    refine (tableFrom_any _ _ g x H.out).mono ?_; rintro e w1 ⟨rfl, hb1⟩
    have HB1 := Lib.hid (HB0.out.trans (hb1.mono HB0.out.size))
    rw [H1.out]
    clear hb1
    go_wp2_with (refine wpList_store_abs rfl 132 (.tmp 8) (.tmp 16) rfl _ _ rfl rfl 132 _ (heap_alloc_at _ _ _ rfl) HI.out HI2.out (tabF_all _ _) ?_)
    intro w2 hg2 hb2 hz2
    have HB2 : Hid (Below w.heap.size w w2) := (HB1.out.alloc HB1.out.size _).trans (hb2.out.mono HB1.out.size)
    clear hg2 hb2 hz2
    go_wp2_with fail
    go_ret2
    exact ⟨rfl, HB2.out⟩
  · have H1 := Lib.hid h1
    obtain ⟨g1, x1, x2⟩ := okSt_parts h1
    have HT : Hid (tabF g x = (tabL g.length g).toArray) := by show _ = _; unfold tabF; rw [if_pos h1]
    cases h2 : isB s.data.toList
    · have HV : Hid (sbOk g x s.data.toList = false ∧ sbV g x s.data.toList = 0) := by
        have e : sbOk g x s.data.toList = false := by unfold sbOk; rw [h1, h2]; rfl
        exact ⟨e, by unfold sbV; rw [if_neg (by rw [e]; decide)]⟩
      rw [HV.out.1, HV.out.2]
      have H2 := Lib.hid h2
      clear h1 h2 g1 x1 x2
      go_enter Try.func110, Try.ntmps110
      go_wp2_with fail
      refine (tableFrom_any _ _ g x H.out).mono ?_; rintro e w1 ⟨rfl, hb1⟩
      have HB1 := Lib.hid (HB0.out.trans (hb1.mono HB0.out.size))
      rw [H1.out]
      clear hb1
      go_wp2_with (refine wpList_store_abs rfl 132 (.tmp 8) (.tmp 16) rfl _ _ rfl rfl 132 _ (heap_alloc_at _ _ _ rfl) HI.out HI2.out (tabF_all _ _) ?_)
      intro w2 hg2 hb2 hz2
      have HB2 : Hid (Below w.heap.size w w2) := (HB1.out.alloc HB1.out.size _).trans (hb2.out.mono HB1.out.size)
      clear hg2 hb2 hz2
      go_wp2_with fail
      refine (isBits_any _ _ HS.out).mono ?_; rintro e w3 ⟨rfl, hb3⟩
      have HB3 := Lib.hid (HB2.out.trans (hb3.mono HB2.out.size))
      rw [H2.out]
      clear hb3
      go_wp2_with fail
      go_ret2
      exact ⟨rfl, HB3.out⟩
    · have H2 := Lib.hid h2
      obtain ⟨i1, i2⟩ := isB_parts h2
      obtain ⟨x, rfl⟩ := Int.eq_ofNat_of_zero_le x1
      have hs400 : s.size ≤ 400 := by simpa using i1
      have HIN := Lib.hid i2
      have HG := Lib.hid g1
      have HGL := Lib.hid (isG_le g1)
      have HNO : Hid (∀ k, runG g x (s.data.toList.take k) < 0 → sbOk g x s.data.toList = false ∧ sbV g x s.data.toList = 0) := by
        show ∀ k, _
        intro k hk
        have e : sbOk g x s.data.toList = false := by
          unfold sbOk
          rw [runG_cut g x s.data.toList k hk, decide_eq_false (by omega)]
          simp
        exact ⟨e, by unfold sbV; rw [if_neg (by rw [e]; decide)]⟩
      have HYES : Hid (0 ≤ runG g x s.data.toList → sbOk g x s.data.toList = true ∧ sbV g x s.data.toList = runG g x s.data.toList) := by
        show _ → _
        intro h0
        have e : sbOk g x s.data.toList = true := by unfold sbOk; rw [h1, h2, decide_eq_true h0]; rfl
        exact ⟨e, by unfold sbV; rw [if_pos e]⟩
      clear h1 h2 g1 x1 i1 i2
      generalize sbOk g x s.data.toList = V at *
      generalize sbV g x s.data.toList = Z at *
      go_enter Try.func110, Try.ntmps110
      go_wp2_with fail
      refine (tableFrom_any _ _ g x H.out).mono ?_; rintro e w1 ⟨rfl, hb1⟩
      have HB1 := Lib.hid (HB0.out.trans (hb1.mono HB0.out.size))
      rw [H1.out]
      clear hb1
      go_wp2_with (refine wpList_store_abs rfl 132 (.tmp 8) (.tmp 16) rfl _ _ rfl rfl 132 _ (heap_alloc_at _ _ _ rfl) HI.out HI2.out (tabF_all _ _) ?_)
      intro w2 hg2 hb2 hz2
      rw [HT.out] at hg2
      have HB2 : Hid (Below w.heap.size w w2) := (HB1.out.alloc HB1.out.size _).trans (hb2.out.mono HB1.out.size)
      have HZ2 : Hid (w1.heap.size < w2.heap.size) := by show _ < _; have h6 : w2.heap.size = _ := hz2.out; rw [h6]; simp
      clear hb2 hz2
      go_wp2_with fail
      refine (isBits_any _ _ HS.out).mono ?_; rintro e w3 ⟨rfl, hb3⟩
      have HB3 := Lib.hid (HB2.out.trans (hb3.mono HB2.out.size))
      have HG3 : Hid (w3.heap[w1.heap.size]? = some (.cells (tabL g.length g).toArray 132 (0, 0))) := (hb3.block _ HZ2.out).trans hg2.out
      rw [H2.out]
      clear hb3 hg2
      go_wp2_with fail
      go_loopw [10, 28] (fun y i wr => ∃ (k y' q : Nat), k ≤ s.size ∧ i = .int .i64 k ∧ y = .int .i64 y' ∧ Hid ((y' : Int) = runG g x (s.data.toList.take k)) ∧ y' < g.length ∧ wr = w3.drewN q) (fun _ i _ => s.size - (intOf i).toNat)
      case atStart => exact ⟨0, x, 0, Nat.zero_le _, rfl, rfl, rfl, by omega, rfl⟩
      case round =>
        obtain ⟨k, y, q, hk, rfl, rfl, hy, hyl, rfl⟩ := hrel
        by_cases hp : k < s.size
        · have hbit := inR_at 48 49 s k hp HIN.out
          have hsn := take_snoc s k hp
          have hbd := edge_bd HG.out y hyl s[k] (by omega)
          have HY : Hid (edge g y s[k] = runG g x (s.data.toList.take (k + 1))) := by
            show _ = _
            rw [hsn, runG_snoc, ← hy.out]
            unfold stepG
            rw [if_neg (by omega)]
          obtain ⟨e0, e1⟩ := tabL_at g.length g y hyl
          have c0 := (cell_of_row w3 w1.heap.size (1 + y * 2) _ _ _ HG3.out).trans e0
          have c1 := (cell_of_row w3 w1.heap.size (1 + y * 2 + 1) _ _ _ HG3.out).trans e1
          have f48 : IntKind.u8.wrap 0 = 0 := by decide
          have f49 : IntKind.u8.wrap 1 = 1 := by decide
          have y0 : (0 : Int) ≤ (y : Int) := by omega
          have y1 : (y : Int) < 12 := by have := HGL.out; omega
          have hge : edge g y s[k] = g[y].getD (s[k].toNat - 48) 0 := by
            unfold edge
            rw [Int.toNat_natCast, List.getD_eq_getElem?_getD (l := g), List.getElem?_eq_getElem hyl, Option.getD_some]
          have HGE := Lib.hid hge
          clear hge hsn hy e0 e1
          rcases (show (s[k].toNat : Int) = 48 ∨ (s[k].toNat : Int) = 49 from by omega) with eb | eb
          · have HZ : Hid (g[y].getD 0 0 = edge g y s[k]) := by show _ = _; rw [HGE.out, show s[k].toNat - 48 = 0 from by omega]
            have HBD : Hid (-1 ≤ g[y].getD 0 0 ∧ g[y].getD 0 0 ≤ (g.length : Int) - 1) := by show _ ∧ _; rw [HZ.out]; exact hbd
            clear hbit hbd
            generalize g[y].getD 0 0 = z0 at *
            generalize g[y].getD 1 0 = z1 at *
            by_cases hz : z0 = -1
            · have hzz : (z0 == -1) = true := beq_t hz
              have HV := Lib.hid (HNO.out (k + 1) (by rw [← HY.out, ← HZ.out]; omega))
              have HZ0 := Lib.hid hz
              clear hz
              go_wp2_with fail
              go_quiet (fail)
              go_wp2_with fail
              go_ret2
              exact ⟨ret_ib (by rw [HV.out.2]) (by rw [HV.out.1]), below_drewN HB3.out _⟩
            · have hzz : (z0 == -1) = false := beq_f hz
              obtain ⟨z0, rfl⟩ := Int.eq_ofNat_of_zero_le (show 0 ≤ z0 by have := HBD.out; omega)
              clear hz
              go_wp2_with fail
              go_quiet (fail)
              go_wp2_with fail
              go_roundw
              case rel => exact ⟨k + 1, z0, _, by omega, by go_num, rfl, HZ.out.trans HY.out, by have := HBD.out; omega, rfl⟩
              case measure => simp [intOf]; omega
          · have HZ : Hid (g[y].getD 1 0 = edge g y s[k]) := by show _ = _; rw [HGE.out, show s[k].toNat - 48 = 1 from by omega]
            have HBD : Hid (-1 ≤ g[y].getD 1 0 ∧ g[y].getD 1 0 ≤ (g.length : Int) - 1) := by show _ ∧ _; rw [HZ.out]; exact hbd
            clear hbit hbd
            generalize g[y].getD 0 0 = z0 at *
            generalize g[y].getD 1 0 = z1 at *
            by_cases hz : z1 = -1
            · have hzz : (z1 == -1) = true := beq_t hz
              have HV := Lib.hid (HNO.out (k + 1) (by rw [← HY.out, ← HZ.out]; omega))
              have HZ0 := Lib.hid hz
              clear hz
              go_wp2_with fail
              go_quiet (fail)
              go_wp2_with fail
              go_ret2
              exact ⟨ret_ib (by rw [HV.out.2]) (by rw [HV.out.1]), below_drewN HB3.out _⟩
            · have hzz : (z1 == -1) = false := beq_f hz
              obtain ⟨z1, rfl⟩ := Int.eq_ofNat_of_zero_le (show 0 ≤ z1 by have := HBD.out; omega)
              clear hz
              go_wp2_with fail
              go_quiet (fail)
              go_wp2_with fail
              go_roundw
              case rel => exact ⟨k + 1, z1, _, by omega, by go_num, rfl, HZ.out.trans HY.out, by have := HBD.out; omega, rfl⟩
              case measure => simp [intOf]; omega
        · have HE := Lib.hid (take_all s k hp)
          have HV : Hid (V = true ∧ Z = (y : Int)) := by
            show _ ∧ _
            have e : (y : Int) = runG g x s.data.toList := by rw [← HE.out]; exact hy.out
            have := HYES.out (by omega)
            exact ⟨this.1, by rw [this.2, e]⟩
          clear hy
          go_wp2_with fail
          go_ret2
          exact ⟨ret_ib (by rw [HV.out.2]) (by rw [HV.out.1]), below_drewN HB3.out q⟩

theorem isAllowed_impl (w : World) (v : Value) (g : List (List Int)) (x : Int) (s : ByteArray) (h : RdG w v g) (hs : s.size ≤ maxLen) :
    Calls Try.prog 57 #[.agg #[v], .int .i64 x, .string s] w fun e w' => e = .returned (.bool (sbOk g x s.data.toList)) ∧ Below w.heap.size w w' := by
  obtain ⟨A, n, c, rfl⟩ := rdg_sh h
  have H := Lib.hid (h.keep ((Below.refl _ _).alloc (Nat.le_refl _) (.cells #[.slice A n c] 60)))
  have HB0 : Hid (Below w.heap.size w (w.alloc (.cells #[.slice A n c] 60))) := (Below.refl _ _).alloc (Nat.le_refl _) _
  have HS := Lib.hid hs
  clear h hs
  go_enter Try.func57, Try.ntmps57
  go_wp2_with fail
  refine (stateBehind_impl _ _ g x s H.out HS.out).mono ?_; rintro e w1 ⟨rfl, hb1⟩
  have HB1 := Lib.hid (HB0.out.trans (hb1.mono HB0.out.size))
  clear hb1
  go_wp2_with fail
  go_ret
  exact ⟨rfl, HB1.out⟩
end Go.Proofs.Ytijmfienaoeboaa
