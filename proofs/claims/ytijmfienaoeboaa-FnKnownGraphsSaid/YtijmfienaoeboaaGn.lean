/- Contracts of slices.Clone, edgeIf, a table's graph. -/
import Derived.Test.YtijmfienaoeboaaGm
import Derived.Test.YtijmfienaoeboaaGt
import Derived.Lib.LazyBuf
namespace Go.Proofs.Ytijmfienaoeboaa
open Go Go.RowKit
set_option linter.unusedVariables false

set_option maxRecDepth 100000 in
theorem clone_any (w : World) (b o c : Nat) (l : List Int) (hl : l.length ≤ 4000000) (hlt : b < w.heap.size) (hc : ∀ i (h : i < l.length), w.cell? ⟨b, o + i, none⟩ = some (.int .i64 l[i])) :
    Calls Try.prog 150 #[.slice (some ⟨b, o, none⟩) l.length c] w fun e w' => ∃ u, e = .returned u ∧ Own w' w.heap.size u l ∧ Below w.heap.size w w' := by
  obtain ⟨i0, hi, hz0, hz1, hz2⟩ := info_parts Try.infoInt
  have HC : Hid (∀ (j : Nat) (u : Value), (intVals l)[j]? = some u → (w.alloc (.cells #[] 2)).cell? ((⟨b, o, none⟩ : Addr).add j) = some u) := by
    show ∀ (j : Nat) (u : Value), _
    intro j u hu
    have hadd : ∀ i, (⟨b, o, none⟩ : Addr).add i = ⟨b, o + i, none⟩ := fun i => by unfold Addr.add; split <;> simp_all
    have hj : j < l.length := by
      have := (List.getElem?_eq_some_iff.1 hu).1
      simpa [intVals] using this
    rw [intVals_at l j hj] at hu
    rw [hadd, ← hu]
    exact (((Below.refl w.heap.size w).alloc (Nat.le_refl _) _).cell (p := ⟨b, o + j, none⟩) hlt).trans (hc j hj)
  have H0 := Lib.hid (World.ownsRow_made (base := w.heap.size) (e := 2) (size := 1) w #[] 0 (Nat.le_refl _) (by decide) rfl)
  have HL : Hid ((intVals l).length = l.length * 1) := by show _ = _; rw [intVals_length]; omega
  have H1 : Hid (∀ u ∈ intVals l, u.oneCell' = true) := by
    show ∀ u ∈ intVals l, _
    intro u hu
    obtain ⟨x, -, rfl⟩ := List.mem_map.1 hu
    rfl
  clear hc
  generalize hm : l.length = m at *
  have HM := Lib.hid hm
  clear hm
  have hnil := fun W => run_eql_slice_nil (P := Try.prog) W 32 2 (some ⟨b, o, none⟩) m c Try.underlying32
  go_enter Try.func150, Try.ntmps150
  go_wp2_with (at_builtin; refine wpList_append_own _ rfl _ _ 32 rfl w.heap.size 2 i0 (.int .i64 0) 1 8 Try.underlying32 hi hz0 hz1 hz2 rfl (by decide) _ _ _ rfl H0.out ⟨b, o, none⟩ m c (intVals l) rfl HL.out HC.out H1.out ?c3 ?c4 ?c5 ?_)
  case c3 => unfold maxLen; omega
  case c4 => omega
  case c5 => first | omega | (simp; omega) | simp
  intro v' w1 hown' hgrow _
  have hb1 : Below w.heap.size w w1 := ((Below.refl _ _).alloc (Nat.le_refl _) _).grown hgrow (by simp) (fun k hk => by have := (H0.out.lt k hk).1; omega)
  have HO : Hid (Own w1 w.heap.size v' l) := by show Own _ _ _ _; unfold Own; rw [HM.out]; simpa using hown'
  clear hown' hgrow
  go_wp2_with fail
  go_ret
  exact ⟨_, rfl, HO.out, hb1⟩

theorem edgeIf_any (b : Bool) (x : Int) (w : World) :
    Calls Try.prog 108 #[.bool b, .int .i64 x] w fun e w' => e = .returned (.int .i64 (if b then x else -1)) ∧ w = w' := by
  cases b
  · go_enter Try.func108, Try.ntmps108
    go_wp2_with fail
    go_ret
    exact ⟨rfl, rfl⟩
  · go_enter Try.func108, Try.ntmps108
    go_wp2_with fail
    go_ret
    exact ⟨rfl, rfl⟩

/-- Rows of two. -/
def twos (g : List (List Int)) : Prop := ∀ r ∈ g, r = [r.getD 0 0, r.getD 1 0]
theorem edgesL_at2 : ∀ (g : List (List Int)) (y : Nat) (h : y < g.length), (edgesL g)[y * 2]? = some (g[y].getD 0 0) ∧ (edgesL g)[y * 2 + 1]? = some (g[y].getD 1 0)
  | r :: g, 0, h => ⟨rfl, rfl⟩
  | r :: g, y + 1, h => by
    have := edgesL_at2 g y (by simpa using h)
    have e : edgesL (r :: g) = r.getD 0 0 :: r.getD 1 0 :: edgesL g := by simp [edgesL]
    rw [e, show (y + 1) * 2 = y * 2 + 1 + 1 from by omega]
    simpa using this
theorem tabL_at2 (n : Nat) (g : List (List Int)) (y : Nat) (h : y < g.length) : (tabL n g).toArray[1 + y * 2]? = some (.int .i64 (g[y].getD 0 0)) ∧ (tabL n g).toArray[1 + y * 2 + 1]? = some (.int .i64 (g[y].getD 1 0)) := by
  obtain ⟨h1, h2⟩ := edgesL_at2 g y h
  have hl := edgesL_len g
  unfold tabL
  rw [show 1 + y * 2 + 1 = (y * 2 + 1) + 1 from by omega, show 1 + y * 2 = y * 2 + 1 from by omega]
  rw [List.getElem?_toArray, List.getElem?_cons_succ, List.getElem?_map, List.getElem?_append_left (by omega), h1, List.getElem?_toArray, List.getElem?_cons_succ, List.getElem?_map, List.getElem?_append_left (by omega), h2]
  exact ⟨rfl, rfl⟩

theorem apart_snoc {us : List Value} {u : Value} {B : Nat} (h : us.Pairwise apart2) (hlt : ∀ x ∈ us, ∀ k, x.ownBlock = some k → k < B) (hge : ∀ k, u.ownBlock = some k → B ≤ k) : (us ++ [u]).Pairwise apart2 := by
  rw [List.pairwise_append]
  refine ⟨h, List.pairwise_singleton _ _, fun a ha b hb k hk hk' => ?_⟩
  simp at hb
  subst hb
  have := hlt a ha k hk
  have := hge k hk'
  omega

/-- What graph holds in its round j. -/
structure GL (w wr : World) (cs : Array Value) (n j : Nat) (us : List Value) (g : List (List Int)) : Prop where
  tab : wr.heap[w.heap.size]? = some (.cells cs 132 (0, 0))
  res : OneC wr (w.heap.size + 1) (.slice none 0 0)
  row : wr.ownsRow (w.heap.size + 1 + 1) 32 1 (.slice (some ⟨w.heap.size + 1 + 1, 0, none⟩) n n) n (us ++ List.replicate (n - j) nilV)
  each : ∀ x (h : x < g.length) (h' : x < us.length), Own wr (w.heap.size + 1 + 1 + 1) us[x] g[x]
  apart : us.Pairwise apart2
  tops : ∀ u ∈ us, ∀ k, u.ownBlock = some k → k < wr.heap.size
  below : Below w.heap.size w wr
  size : w.heap.size + 1 + 1 < wr.heap.size
theorem GL.next {w wr w5 : World} {cs : Array Value} {n j : Nat} {us : List Value} {g : List (List Int)} {x : Value} (h : GL w wr cs n j us g) (hus : us.length = j) (hj : j < n) (hjg : j < g.length) (hb : Below wr.heap.size wr w5) (hx : Own w5 wr.heap.size x g[j]) :
    GL w (w5.setCell ⟨w.heap.size + 1 + 1, j, none⟩ x) cs n (j + 1) (us ++ [x]) g := by
  have hz5 := hb.size
  have hs := h.size
  have hlt0 : w.heap.size < wr.heap.size := by omega
  have hxr : ∀ k, x.ownBlock = some k → wr.heap.size ≤ k ∧ k < w5.heap.size := fun k hk => World.ownsRow.lt hx k hk
  refine ⟨?_, ?_, ?_, ?_, apart_snoc h.apart h.tops (fun k hk => (hxr k hk).1), ?_, ?_, ?_⟩
  · rw [Below.heap_setCell _ _ _ _ (by simp; omega)]
    exact (hb.block _ hlt0).trans h.tab
  · have := h.res.keep hb
    refine ⟨?_, ?_, ?_⟩
    · rw [World.cell?_setCell_far _ _ _ _ (by simp)]; exact this.1
    · simpa using this.2.1
    · simpa [World.setCell] using this.2.2
  · have h1 := (own_below h.row hb).stored j x
    rw [nil_set us n j x hus hj] at h1
    exact h1.1
  · exact ins_next (B := w.heap.size + 1 + 1) hus hjg (fun y h1 h2 => own_below (h.each y h1 h2) hb) (Own.base hx (by omega)) j x
  · intro u hu k hk
    have : (w5.setCell ⟨w.heap.size + 1 + 1, j, none⟩ x).heap.size = w5.heap.size := by simp [World.setCell]
    rw [this]
    rcases List.mem_append.1 hu with h' | h'
    · have := h.tops u h' k hk; omega
    · simp at h'; subst h'; exact (hxr k hk).2
  · exact (h.below.trans (hb.mono h.below.size)).setCell (by show w.heap.size ≤ w.heap.size + 1 + 1; omega) _
  · simp [World.setCell]; omega

theorem own_low {w : World} {base base' : Nat} {e : TypeId} {size n : Nat} {v : Value} {xs : List Value} (h : w.ownsRow base e size v n xs) (hle : base' ≤ base) : w.ownsRow base' e size v n xs := by
  refine ⟨h.1, ?_⟩
  rcases h.2 with h' | ⟨g, cap, cur, h1, h2, h3⟩
  · exact .inl h'
  · exact .inr ⟨g, cap, cur, h1, by omega, h3⟩
theorem GL.done {w wr : World} {cs : Array Value} {n : Nat} {us : List Value} {g : List (List Int)} (h : GL w wr cs n n us g) (hus : us.length = n) (hn : g.length = n) :
    OwnG (wr.setCell ⟨w.heap.size + 1, 0, none⟩ (.slice (some ⟨w.heap.size + 1 + 1, 0, none⟩) n n)) w.heap.size (wr.setCell ⟨w.heap.size + 1, 0, none⟩ (.slice (some ⟨w.heap.size + 1 + 1, 0, none⟩) n n)).heap.size (.slice (some ⟨w.heap.size + 1 + 1, 0, none⟩) n n) us g ∧ Below w.heap.size w (wr.setCell ⟨w.heap.size + 1, 0, none⟩ (.slice (some ⟨w.heap.size + 1 + 1, 0, none⟩) n n)) := by
  have hz : (wr.setCell ⟨w.heap.size + 1, 0, none⟩ (.slice (some ⟨w.heap.size + 1 + 1, 0, none⟩) n n)).heap.size = wr.heap.size := by simp [World.setCell]
  have hs := h.size
  refine ⟨⟨?_, by omega, fun i h1 h2 => ?_, h.apart, ?_, ?_, Nat.le_refl _⟩, h.below.setCell (by show w.heap.size ≤ w.heap.size + 1; omega) _⟩
  · have hr := h.row
    rw [Nat.sub_self, List.replicate_zero, List.append_nil] at hr
    rw [hus]
    exact own_low (ownsRow_setCell_below hr (by simp) _) (by omega)
  · have := h.each i h1 h2
    exact Own.base (ownsRow_setCell_below this (by simp) _) (by omega)
  · intro k hk
    rw [hz]
    simp [Value.ownBlock] at hk
    omega
  · intro u hu k hk
    rw [hz]
    exact h.tops u hu k hk

set_option maxHeartbeats 1600000 in
set_option maxRecDepth 100000 in
theorem tabGraph_any (w : World) (g : List (List Int)) (hg : g.length ≤ 12) (h2 : twos g) :
    Calls Try.prog 109 #[.agg (tabL g.length g).toArray] w fun e w' => ∃ v us, e = .returned (.agg #[v]) ∧ OwnG w' w.heap.size w'.heap.size v us g ∧ Below w.heap.size w w' := by
  obtain ⟨i0, hi, hz0, hz1, hz2⟩ := info_parts Try.infoRow
  obtain ⟨n, hn⟩ : ∃ n, n = g.length := ⟨_, rfl⟩
  rw [← hn] at hg ⊢
  have HN := Lib.hid hn.symm
  have HT := Lib.hid (tabL_at2 n g)
  have HW := Lib.hid h2
  have HC0 : Hid ((w.alloc (.cells (tabL n g).toArray 132)).cell? ⟨w.heap.size, 0, none⟩ = some (.int .i64 (n : Int))) := by show _ = _; rw [World.cell?_alloc_at _ _ _ _ rfl]; rfl
  have hcs0 : (tabL n g).toArray[0]? = some (.int .i64 (n : Int)) := rfl
  have HSZ : Hid ((tabL n g).toArray.size = 25) := by show _ = _; rw [List.size_toArray, tabL_len _ _ (by omega)]
  generalize hcs : (tabL n g).toArray = cs at *
  clear hn h2 hcs
  have o2 := OneC.new (w.alloc (.cells cs 132)) (.slice none 0 0) 60
  rw [World.size_alloc] at o2
  have O2 := Lib.hid o2
  clear o2
  go_enter Try.func109, Try.ntmps109
  go_wp2_with (at_make; refine wpList_make_full _ rfl _ _ 58 rfl (w.heap.size + 1 + 1) 32 i0 (.slice none 0 0) 1 Try.underlying58 hi hz0 hz1 _ _ _ _ n rfl rfl rfl rfl ?b2 ?b3 ?b4 ?_)
  case b2 => first | (rw [hz2]; omega) | omega
  case b3 => unfold maxLen; omega
  case b4 => first | omega | simp
  intro w1 hown hgrow
  have HG1 : Hid (GL w w1 cs n 0 [] g) := by
    show GL _ _ _ _ _ _ _
    have hbb := (Below.refl _ ((w.alloc (.cells cs 132)).alloc (.cells #[.slice none 0 0] 60))).grown hgrow (Nat.le_refl _) (by simp)
    have hrow : w1.ownsRow (w.heap.size + 1 + 1) 32 1 (.slice (some ⟨w.heap.size + 1 + 1, 0, none⟩) n n) n (([] : List Value) ++ List.replicate (n - 0) nilV) := by
      rw [toList_madeCells_one] at hown
      simpa [nilV] using hown
    refine ⟨?_, O2.out.keep hbb, hrow, fun x h h' => by simp at h', List.Pairwise.nil, fun u hu => by simp at hu, (((Below.refl _ _).alloc (Nat.le_refl _) _).alloc (by simp) _).trans (hbb.mono (by simp; omega)), ?_⟩
    · refine (hbb.block _ (by simp; omega)).trans ((Below.heap_alloc _ _ _ (by simp)).trans (heap_alloc_new w _))
    · rcases hrow.2 with ⟨h', _⟩ | ⟨g', cap, cur, h', _, hg, _⟩
      · cases h'
      · injection h' with h' _ _
        injection h' with h'
        injection h' with h' _ _
        subst h'
        rcases Nat.lt_or_ge (w.heap.size + 1 + 1) w1.heap.size with hl | hl
        · exact hl
        · rw [Array.getElem?_eq_none hl] at hg; cases hg
  clear hown hgrow
  go_wp2_with fail
  go_loopw [10] (fun i wr => ∃ (j : Nat) (us : List Value), j ≤ n ∧ us.length = j ∧ i = .int .i64 j ∧ Hid (GL w wr cs n j us g)) (fun i _ => n - (intOf i).toNat)
  case atStart => exact ⟨0, [], Nat.zero_le _, rfl, rfl, HG1⟩
  case round =>
    obtain ⟨j, us, hj, hus, rfl, HGj⟩ := hrel
    clear HG1
    have HUS := Lib.hid hus
    clear hus hcs0
    by_cases hlt : j < n
    · have hjg : j < g.length := by have := HN.out; omega
      have ht := HT.out j hjg
      have hr2 := HW.out g[j] (List.getElem_mem hjg)
      have e0 := (cell_of_row _ w.heap.size (1 + j * 2) _ _ _ HGj.out.tab).trans ht.1
      have e1 := (cell_of_row _ w.heap.size (1 + j * 2 + 1) _ _ _ HGj.out.tab).trans ht.2
      have HCL : Hid (Calls Try.prog 150 #[.slice (some ⟨w.heap.size, 1 + j * 2, none⟩) 2 2] wr fun e w' => ∃ u, e = .returned u ∧ Own w' wr.heap.size u g[j] ∧ Below wr.heap.size wr w') := by
        show Calls _ _ _ _ _
        have := clone_any wr w.heap.size (1 + j * 2) 2 [g[j].getD 0 0, g[j].getD 1 0] (by simp) (by have := HGj.out.size; omega) (fun i hi => by
          match i, hi with
          | 0, _ => exact e0
          | 1, _ => exact e1)
        rw [← hr2] at this
        have hl : g[j].length = 2 := by rw [hr2]; rfl
        rw [hl] at this
        exact this
      have hk0 : (0 : Int) ≤ (j : Int) := by omega
      have hk1 : (j : Int) < (n : Int) := by omega
      have hk2 : (j : Int) < 12 := by omega
      clear ht hr2 e0 e1
      go_wp2_with fail
      refine HCL.out.mono ?_; rintro e w5 ⟨x, rfl, ho5, hb5⟩
      obtain ⟨Ax, cx, hx⟩ := own_shape ho5
      have HNX := Lib.hid (HGj.out.next HUS.out hlt hjg hb5 ho5)
      rw [hx] at HNX
      have hown5 := own_below HGj.out.row hb5
      have hfr := hown5.frozenAt j
      have hcl := hown5.cellAt j (by omega)
      obtain ⟨y, hy⟩ : ∃ y, (us ++ List.replicate (n - j) nilV)[j]? = some y := ⟨_, List.getElem?_eq_getElem (by simp; have := HUS.out; omega)⟩
      rw [hy] at hcl
      subst hx
      clear hown5 hy hb5 ho5
      generalize g[j].length = m at *
      go_wp2_with fail
      go_roundw
      case rel => exact ⟨j + 1, us ++ [.slice Ax m cx], by omega, by simp [HUS.out], by go_num, HNX⟩
      case measure => simp [intOf]; omega
    · obtain rfl : j = n := by omega
      obtain ⟨p1, p2, p3⟩ := HGj.out.res
      have HZ : Hid (j - j = 0) := Nat.sub_self _
      have HF : Hid (∀ (W : World), W = wr.setCell ⟨w.heap.size + 1, 0, none⟩ (.slice (some ⟨w.heap.size + 1 + 1, 0, none⟩) j j) → OwnG W w.heap.size W.heap.size (.slice (some ⟨w.heap.size + 1 + 1, 0, none⟩) j j) us g ∧ Below w.heap.size w W) := by
        show ∀ W, _
        rintro W rfl
        exact HGj.out.done HUS.out HN.out
      go_wp2_with fail
      exact bodyPost_ret (v := .agg #[.slice (some ⟨w.heap.size + 1 + 1, 0, none⟩) j j]) (by simp [results, Try.results109, go_sem, p1]) rfl ⟨_, us, rfl, HF.out _ rfl⟩
end Go.Proofs.Ytijmfienaoeboaa
