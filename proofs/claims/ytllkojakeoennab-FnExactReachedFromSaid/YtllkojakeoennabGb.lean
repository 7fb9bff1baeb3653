/- Contracts of both StateBehind and IsAllowed. -/
import Derived.Test.YtllkojakeoennabGv
import Derived.Test.YtllkojakeoennabBits
import Derived.Deep.QuietTactic
import Derived.BigQuiet
namespace Go.Proofs.Ytllkojakeoennab
open Go Go.RowKit
set_option linter.unusedVariables false

/-- Whether a graph is valid and a number is a state of it. -/
def okSt (g : List (List Int)) (x : Int) : Bool := isG g && decide (0 ≤ x ∧ x ≤ (g.length : Int) - 1)
/-- The state to which a bit leads. -/
def edge (g : List (List Int)) (x : Int) (c : UInt8) : Int := (g.getD x.toNat []).getD (c.toNat - 48) 0
def stepG (g : List (List Int)) (x : Int) (c : UInt8) : Int := if x < 0 then x else edge g x c
def runG (g : List (List Int)) (x : Int) (l : List UInt8) : Int := l.foldl (stepG g) x
theorem runG_snoc (g : List (List Int)) (x : Int) (l : List UInt8) (c : UInt8) : runG g x (l ++ [c]) = stepG g (runG g x l) c := by simp [runG, List.foldl_append]
theorem runG_neg (g : List (List Int)) : ∀ (l : List UInt8) (x : Int), x < 0 → runG g x l = x
  | [], x, h => rfl
  | c :: l, x, h => by
    have e : stepG g x c = x := by unfold stepG; rw [if_pos h]
    show runG g (stepG g x c) l = x
    rw [e]; exact runG_neg g l x h
theorem runG_cut (g : List (List Int)) (x : Int) (l : List UInt8) (k : Nat) (h : runG g x (l.take k) < 0) : runG g x l = runG g x (l.take k) := by
  have e : runG g x l = runG g (runG g x (l.take k)) (l.drop k) := by
    show l.foldl (stepG g) x = _
    unfold runG
    rw [← List.foldl_append, List.take_append_drop]
  rw [e, runG_neg g _ _ h]
theorem isG_row {g : List (List Int)} (h : isG g = true) (k : Nat) (hk : k < g.length) : okRow g.length g[k] = true := by
  unfold isG at h
  have := (Bool.and_eq_true_iff.1 h).2
  rw [List.all_eq_true] at this
  exact this _ (List.getElem_mem hk)
theorem isG_le {g : List (List Int)} (h : isG g = true) : 1 ≤ g.length ∧ g.length ≤ 12 := by
  unfold isG at h
  exact of_decide_eq_true (Bool.and_eq_true_iff.1 h).1
theorem okRow_parts {n : Nat} {r : List Int} (h : okRow n r = true) : r.length = 2 ∧ (-1 ≤ r.getD 0 0 ∧ r.getD 0 0 ≤ (n : Int) - 1) ∧ (-1 ≤ r.getD 1 0 ∧ r.getD 1 0 ≤ (n : Int) - 1) ∧ ¬ (r.getD 0 0 < 0 ∧ r.getD 1 0 < 0) := of_decide_eq_true h
/-- A state, or none, leads to a state, or none. -/
theorem edge_bd {g : List (List Int)} (h : isG g = true) (x : Nat) (hx : x < g.length) (c : UInt8) (hc : (c.toNat : Int) = 48 ∨ (c.toNat : Int) = 49) : -1 ≤ edge g x c ∧ edge g x c ≤ (g.length : Int) - 1 := by
  have hr := okRow_parts (isG_row h x hx)
  unfold edge
  rw [Int.toNat_natCast, List.getD_eq_getElem?_getD (l := g), List.getElem?_eq_getElem hx, Option.getD_some]
  rcases hc with e | e
  · rw [show c.toNat - 48 = 0 from by omega]; exact hr.2.1
  · rw [show c.toNat - 48 = 1 from by omega]; exact hr.2.2.1

set_option maxRecDepth 100000 in
theorem l02State_any (w : World) (b : Nat) (v : Value) (g : List (List Int)) (x : Int) (hcv : w.cell? ⟨b, 0, none⟩ = some v) (h : RdG w v g) :
    Calls Try.prog 96 #[.pointer (some ⟨b, 0, none⟩), .int .i64 x] w fun e w' => e = .returned (.bool (okSt g x)) ∧ w = w' := by
  have hlen := h.len
  have H := Lib.hid (fun _ : True => l02Is_any w b v g hcv h)
  obtain ⟨A, n, c, rfl, hn, -⟩ := h
  have hnl : n ≤ 9223372036854775807 := by unfold maxLen at hlen; omega
  have t1 : IntKind.i64.wrap ((n : Int) - 1) = (n : Int) - 1 := IntWalk.i64_in _ (by omega)
  have HK : Hid (okSt g x = (isG g && decide (0 ≤ x ∧ x ≤ (n : Int) - 1))) := by show _ = _; unfold okSt; rw [hn]
  clear hlen hn
  generalize okSt g x = V at *
  generalize isG g = B at *
  cases B
  · have HV : Hid (V = false) := by show _ = _; rw [HK.out]; rfl
    go_enter Try.func96, Try.ntmps96
    go_wp2_with fail
    refine (H.out trivial).mono ?_; rintro e w' ⟨rfl, rfl⟩
    go_wp2_with fail
    go_ret
    exact ⟨ret_bool HV.out.symm, rfl⟩
  · by_cases hx : 0 ≤ x ∧ x ≤ (n : Int) - 1
    · have HV : Hid (V = true) := by show _ = _; rw [HK.out, decide_eq_true hx]; rfl
      obtain ⟨x1, x2⟩ := hx
      go_enter Try.func96, Try.ntmps96
      go_wp2_with fail
      refine (H.out trivial).mono ?_; rintro e w' ⟨rfl, rfl⟩
      go_wp2_with fail
      refine (l00In_yes _ _ _ _ x1 x2).mono ?_; rintro e w' ⟨rfl, rfl⟩
      go_wp2_with fail
      go_ret
      exact ⟨ret_bool HV.out.symm, rfl⟩
    · have HV : Hid (V = false) := by show _ = _; rw [HK.out, decide_eq_false hx]; rfl
      have HX := Lib.hid hx
      clear hx
      go_enter Try.func96, Try.ntmps96
      go_wp2_with fail
      refine (H.out trivial).mono ?_; rintro e w' ⟨rfl, rfl⟩
      go_wp2_with fail
      refine (l00In_no _ _ _ _ HX.out).mono ?_; rintro e w' ⟨rfl, rfl⟩
      go_wp2_with fail
      go_ret
      exact ⟨ret_bool HV.out.symm, rfl⟩

/-- The cells of a row of a valid graph, for a state. -/
theorem rdg_at {w : World} {v : Value} {g : List (List Int)} (h : RdG w v g) (hg : isG g = true) (x : Nat) (hx : x < g.length) :
    ∃ b o n c b2 o2 c2, v = .slice (some ⟨b, o, none⟩) n c ∧ g.length = n ∧ w.cell? ⟨b, o + x, none⟩ = some (.slice (some ⟨b2, o2, none⟩) 2 c2) ∧ w.cell? ⟨b2, o2, none⟩ = some (.int .i64 (g[x].getD 0 0)) ∧ w.cell? ⟨b2, o2 + 1, none⟩ = some (.int .i64 (g[x].getD 1 0)) := by
  obtain ⟨A, n, c, rfl, hn, -, -, r⟩ := h
  obtain ⟨b, o, rfl, -, hc⟩ := r (by omega)
  obtain ⟨u, hu, hr⟩ := hc x hx
  obtain ⟨b2, o2, c2, rfl, -, e0, e1⟩ := rd_two hr (okRow_parts (isG_row hg x hx)).1
  exact ⟨b, o, n, c, b2, o2, c2, rfl, hn, hu, e0, e1⟩

/-- What StateBehind answers. -/
def sbOk (g : List (List Int)) (x : Int) (l : List UInt8) : Bool := okSt g x && isB l && decide (0 ≤ runG g x l)
def sbV (g : List (List Int)) (x : Int) (l : List UInt8) : Int := if sbOk g x l = true then runG g x l else 0
theorem okSt_parts {g : List (List Int)} {x : Int} (h : okSt g x = true) : isG g = true ∧ 0 ≤ x ∧ x ≤ (g.length : Int) - 1 := by
  unfold okSt at h
  have h1 := Bool.and_eq_true_iff.1 h
  exact ⟨h1.1, of_decide_eq_true h1.2⟩
theorem isB_parts {l : List UInt8} (h : isB l = true) : l.length ≤ 400 ∧ inR 48 49 l = true := by
  unfold isB at h
  have h1 := Bool.and_eq_true_iff.1 h
  exact ⟨of_decide_eq_true h1.1, h1.2⟩

def tabF (g : List (List Int)) (x : Int) : Array Value := if okSt g x = true then (tabL g.length g).toArray else zeroA
theorem tabF_size (g : List (List Int)) (x : Int) : (tabF g x).size = 25 := by
  unfold tabF
  split
  · rename_i h
    rw [List.size_toArray, tabL_len _ _ (isG_le (okSt_parts h).1).2]
  · rfl
theorem tabF_all (g : List (List Int)) (x : Int) : (tabF g x).all (·.oneCell') = true := by
  unfold tabF
  split
  · exact tabL_all _ _
  · exact zeroA_all
theorem tabA_at0 (g : List (List Int)) (h : isG g = true) : (tabA g)[0]? = some (.int .i64 (g.length : Int)) := by
  unfold tabA; rw [if_pos h]; rfl

set_option maxHeartbeats 1000000 in
set_option maxRecDepth 100000 in
theorem tableFrom_any (w : World) (v : Value) (g : List (List Int)) (x : Int) (h : RdG w v g) :
    Calls Try.prog 99 #[.agg #[v], .int .i64 x] w fun e w' => e = .returned (.tuple #[.agg (tabF g x), .bool (okSt g x)]) ∧ Below w.heap.size w w' := by
  obtain ⟨A, n, c, rfl⟩ := rdg_sh h
  have H := Lib.hid ((h.keep ((Below.refl _ _).alloc (Nat.le_refl _) (.cells #[.slice A n c] 53))).keep ((Below.refl _ _).alloc (Nat.le_refl _) (.cells zeroA 113)))
  have HQ : Hid (((w.alloc (.cells #[.slice A n c] 53)).alloc (.cells zeroA 113)).heap[w.heap.size + 1]? = some (.cells zeroA 113 (0, 0))) := heap_alloc_at _ _ _ (by simp)
  have HS : Hid ((Try.prog.info? 113).map (·.size) = some (tabA g).size) := by show _ = _; rw [info64, tabA_size]
  have HS2 : Hid (zeroA.size = (tabA g).size) := by show _ = _; rw [tabA_size]; rfl
  clear h
  have HB0 : Hid (Below w.heap.size w ((w.alloc (.cells #[.slice A n c] 53)).alloc (.cells zeroA 113))) := ((Below.refl _ _).alloc (Nat.le_refl _) _).alloc (by simp) _
  have HZ0 : Hid (((w.alloc (.cells #[.slice A n c] 53)).alloc (.cells zeroA 113)).heap.size = w.heap.size + 1 + 1) := by show _ = _; simp
  cases hG : isG g
  · have HG := Lib.hid hG
    have hv : okSt g x = false := by unfold okSt; rw [hG]; rfl
    have HV : Hid (tabF g x = zeroA) := by show _ = _; unfold tabF; rw [if_neg (by rw [hv]; decide)]
    rw [hv]
    clear hG hv
    go_enter Try.func99, Try.ntmps99
    go_wp2_with fail
    refine (tableOf_any _ _ g H.out).mono ?_; rintro e w1 ⟨rfl, hb1⟩
    rw [HG.out]
    have HB1 := Lib.hid (HB0.out.trans (hb1.mono HB0.out.size))
    have HQ1 : Hid (w1.heap[w.heap.size + 1]? = some (.cells zeroA 113 (0, 0))) := (hb1.block _ (by have := HZ0.out; omega)).trans HQ.out
    have HZ1 : Hid (w.heap.size + 1 + 1 ≤ w1.heap.size) := by show _ ≤ _; have := hb1.size; have := HZ0.out; omega
    clear hb1
    go_wp2_with (refine wpList_store_abs rfl 113 (.tmp 6) (.tmp 11) rfl _ _ rfl rfl 113 _ (heap_alloc_at _ _ _ rfl) HS.out HS2.out (tabA_all _) ?_)
    intro w2 hg2 hb2 hz2
    have HB2 : Hid (Below w.heap.size w w2) := (HB1.out.alloc HB1.out.size _).trans (hb2.out.mono HB1.out.size)
    have HQ2 : Hid (w2.heap[w.heap.size + 1]? = some (.cells zeroA 113 (0, 0))) := ((hb2.out.block _ (by have := HZ1.out; omega)).trans (Below.heap_alloc _ _ _ (by have := HZ1.out; omega))).trans HQ1.out
    clear hb2 hz2
    go_wp2_with (refine wpList_store_abs rfl 113 (.tmp 4) (.tmp 23) rfl _ _ rfl rfl 113 _ HQ2.out info64 rfl ?h1 ?_)
    case h1 => exact zeroA_all
    intro w6 hg6 hb6 hz6
    go_wp2_with fail
    refine bodyPost_ret (v := .tuple #[.agg zeroA, .bool false]) (results_cell_tmp Try.results99 _ _ (w.heap.size + 1) 113 zeroA (0, 0) _ rfl hg6.out Try.underlying113 rfl info64) rfl ⟨by rw [HV.out], ?_⟩
    exact HB2.out.trans (hb6.out.mono (by omega))
  · have HG := Lib.hid hG
    have hl := isG_le hG
    have HTA : Hid ((tabA g)[0]? = some (.int .i64 (g.length : Int))) := tabA_at0 g hG
    generalize hgl : g.length = m at *
    have t1 : IntKind.i64.wrap ((m : Int) - 1) = (m : Int) - 1 := IntWalk.i64_in _ (by omega)
    by_cases hx : 0 ≤ x ∧ x ≤ (m : Int) - 1
    · have hv : okSt g x = true := by unfold okSt; rw [hG, hgl, decide_eq_true hx]; rfl
      have HV : Hid (tabF g x = tabA g) := by show _ = _; unfold tabF tabA; rw [if_pos hv, if_pos hG]
      rw [hv]
      obtain ⟨x1, x2⟩ := hx
      clear hG hv hgl
      go_enter Try.func99, Try.ntmps99
      go_wp2_with fail
      refine (tableOf_any _ _ g H.out).mono ?_; rintro e w1 ⟨rfl, hb1⟩
      rw [HG.out]
      have HB1 := Lib.hid (HB0.out.trans (hb1.mono HB0.out.size))
      have HQ1 : Hid (w1.heap[w.heap.size + 1]? = some (.cells zeroA 113 (0, 0))) := (hb1.block _ (by have := HZ0.out; omega)).trans HQ.out
      have HZ1 : Hid (w.heap.size + 1 + 1 ≤ w1.heap.size) := by show _ ≤ _; have := hb1.size; have := HZ0.out; omega
      clear hb1
      go_wp2_with (refine wpList_store_abs rfl 113 (.tmp 6) (.tmp 11) rfl _ _ rfl rfl 113 _ (heap_alloc_at _ _ _ rfl) HS.out HS2.out (tabA_all _) ?_)
      intro w2 hg2 hb2 hz2
      have HB2 : Hid (Below w.heap.size w w2) := (HB1.out.alloc HB1.out.size _).trans (hb2.out.mono HB1.out.size)
      have HQ2 : Hid (w2.heap[w.heap.size + 1]? = some (.cells zeroA 113 (0, 0))) := ((hb2.out.block _ (by have := HZ1.out; omega)).trans (Below.heap_alloc _ _ _ (by have := HZ1.out; omega))).trans HQ1.out
      clear hb2 hz2
      have hc0 : w2.cell? ⟨w1.heap.size, 0, none⟩ = some (.int .i64 (m : Int)) := (cell_of_row w2 _ 0 _ _ _ hg2.out).trans HTA.out
      go_wp2_with fail
      refine (btw_yes _ _ _ _ x1 x2).mono ?_; rintro e w' ⟨rfl, rfl⟩
      clear hc0
      go_wp2_with (first | (refine wpList_load_row rfl 113 (.tmp 6) rfl _ rfl 113 _ (0, 0) _ hg2.out Try.underlying113 rfl HS.out ?_) | (refine wpList_store_abs rfl 113 (.tmp 4) (.tmp 24) rfl _ _ rfl rfl 113 _ HQ2.out HS.out HS2.out (tabA_all _) ?_))
      intro w6 hg6 hb6 hz6
      go_wp2_with fail
      refine bodyPost_ret (v := .tuple #[.agg (tabA g), .bool true]) (results_cell_tmp Try.results99 _ _ (w.heap.size + 1) 113 _ (0, 0) _ rfl hg6.out Try.underlying113 rfl HS.out) rfl ⟨by rw [HV.out], ?_⟩
      exact HB2.out.trans (hb6.out.mono (by omega))
    · have hv : okSt g x = false := by unfold okSt; rw [hgl, decide_eq_false hx]; simp
      have HV : Hid (tabF g x = zeroA) := by show _ = _; unfold tabF; rw [if_neg (by rw [hv]; decide)]
      rw [hv]
      have HX := Lib.hid hx
      clear hG hv hgl hx
      go_enter Try.func99, Try.ntmps99
      go_wp2_with fail
      refine (tableOf_any _ _ g H.out).mono ?_; rintro e w1 ⟨rfl, hb1⟩
      rw [HG.out]
      have HB1 := Lib.hid (HB0.out.trans (hb1.mono HB0.out.size))
      have HQ1 : Hid (w1.heap[w.heap.size + 1]? = some (.cells zeroA 113 (0, 0))) := (hb1.block _ (by have := HZ0.out; omega)).trans HQ.out
      have HZ1 : Hid (w.heap.size + 1 + 1 ≤ w1.heap.size) := by show _ ≤ _; have := hb1.size; have := HZ0.out; omega
      clear hb1
      go_wp2_with (refine wpList_store_abs rfl 113 (.tmp 6) (.tmp 11) rfl _ _ rfl rfl 113 _ (heap_alloc_at _ _ _ rfl) HS.out HS2.out (tabA_all _) ?_)
      intro w2 hg2 hb2 hz2
      have HB2 : Hid (Below w.heap.size w w2) := (HB1.out.alloc HB1.out.size _).trans (hb2.out.mono HB1.out.size)
      have HQ2 : Hid (w2.heap[w.heap.size + 1]? = some (.cells zeroA 113 (0, 0))) := ((hb2.out.block _ (by have := HZ1.out; omega)).trans (Below.heap_alloc _ _ _ (by have := HZ1.out; omega))).trans HQ1.out
      clear hb2 hz2
      have hc0 : w2.cell? ⟨w1.heap.size, 0, none⟩ = some (.int .i64 (m : Int)) := (cell_of_row w2 _ 0 _ _ _ hg2.out).trans HTA.out
      go_wp2_with fail
      refine (btw_no _ _ _ _ HX.out).mono ?_; rintro e w' ⟨rfl, rfl⟩
      clear hc0
      go_wp2_with (refine wpList_store_abs rfl 113 (.tmp 4) (.tmp 23) rfl _ _ rfl rfl 113 _ HQ2.out info64 rfl ?h1 ?_)
      case h1 => exact zeroA_all
      intro w6 hg6 hb6 hz6
      go_wp2_with fail
      refine bodyPost_ret (v := .tuple #[.agg zeroA, .bool false]) (results_cell_tmp Try.results99 _ _ (w.heap.size + 1) 113 zeroA (0, 0) _ rfl hg6.out Try.underlying113 rfl info64) rfl ⟨by rw [HV.out], ?_⟩
      exact HB2.out.trans (hb6.out.mono (by omega))

theorem edgesL_at : ∀ (g : List (List Int)) (y : Nat) (h : y < g.length), (edgesL g)[y * 2]? = some (g[y].getD 0 0) ∧ (edgesL g)[y * 2 + 1]? = some (g[y].getD 1 0)
  | r :: g, 0, h => ⟨rfl, rfl⟩
  | r :: g, y + 1, h => by
    have := edgesL_at g y (by simpa using h)
    have e : edgesL (r :: g) = r.getD 0 0 :: r.getD 1 0 :: edgesL g := by simp [edgesL]
    rw [e, show (y + 1) * 2 = y * 2 + 1 + 1 from by omega]
    simpa using this
theorem tabL_at (n : Nat) (g : List (List Int)) (y : Nat) (h : y < g.length) : (tabL n g).toArray[1 + y * 2]? = some (.int .i64 (g[y].getD 0 0)) ∧ (tabL n g).toArray[1 + y * 2 + 1]? = some (.int .i64 (g[y].getD 1 0)) := by
  obtain ⟨h1, h2⟩ := edgesL_at g y h
  have hl := edgesL_len g
  unfold tabL
  rw [show 1 + y * 2 + 1 = (y * 2 + 1) + 1 from by omega, show 1 + y * 2 = y * 2 + 1 from by omega]
  rw [List.getElem?_toArray, List.getElem?_cons_succ, List.getElem?_map, List.getElem?_append_left (by omega), h1, List.getElem?_toArray, List.getElem?_cons_succ, List.getElem?_map, List.getElem?_append_left (by omega), h2]
  exact ⟨rfl, rfl⟩

end Go.Proofs.Ytllkojakeoennab
