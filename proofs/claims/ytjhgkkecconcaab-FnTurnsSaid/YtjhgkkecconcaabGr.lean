/- Graphs as slices of slices of numbers that are read; the law's own functions over them. -/
import Derived.Test.YtjhgkkecconcaabRd
import Derived.Deep.Matrix
import Derived.Outline
namespace Go.Proofs.Ytjhgkkecconcaab
open Go Go.RowKit
set_option linter.unusedVariables false

theorem Try.infoRow : (Try.prog.info? 22).map (fun i => (i.zero, i.size, i.bytes)) = some (some (.slice none 0 0), 1, 24) := by kernel_rfl

/-- A slice value reads as lists of numbers. -/
def RdG (w : World) (v : Value) (g : List (List Int)) : Prop :=
  ∃ (A : Option Addr) (n c : Nat), v = .slice A n c ∧ g.length = n ∧ n ≤ c ∧ c ≤ maxLen ∧
    (0 < n → ∃ b o, A = some ⟨b, o, none⟩ ∧ b < w.heap.size ∧ ∀ i (h : i < g.length), ∃ u, w.cell? ⟨b, o + i, none⟩ = some u ∧ Rd w u g[i])
theorem RdG.keep {w w' : World} {v : Value} {g : List (List Int)} (h : RdG w v g) (hb : Below w.heap.size w w') : RdG w' v g := by
  obtain ⟨A, n, c, e, hn, h1, h2, h3⟩ := h
  refine ⟨A, n, c, e, hn, h1, h2, fun h0 => ?_⟩
  obtain ⟨b, o, ea, hlt, hc⟩ := h3 h0
  refine ⟨b, o, ea, Nat.lt_of_lt_of_le hlt hb.size, fun i hi => ?_⟩
  obtain ⟨u, hu, hr⟩ := hc i hi
  exact ⟨u, (hb.cell (p := ⟨b, o + i, none⟩) hlt).trans hu, hr.keep hb⟩
theorem RdG.drewN {w : World} {v : Value} {g : List (List Int)} (h : RdG w v g) (q : Nat) : RdG (w.drewN q) v g := by
  obtain ⟨A, n, c, e, hn, h1, h2, h3⟩ := h
  refine ⟨A, n, c, e, hn, h1, h2, fun h0 => ?_⟩
  obtain ⟨b, o, ea, hlt, hc⟩ := h3 h0
  refine ⟨b, o, ea, by simpa using hlt, fun i hi => ?_⟩
  obtain ⟨u, hu, hr⟩ := hc i hi
  exact ⟨u, by simpa using hu, hr.drewN q⟩
theorem RdG.len {w : World} {v : Value} {g : List (List Int)} (h : RdG w v g) : g.length ≤ maxLen := by
  obtain ⟨A, n, c, e, hn, h1, h2, h3⟩ := h
  omega

/-- An argument. -/
theorem rdg_open {H : Type} {enc : TypeId × Value → H} {W : World} {fuel : Nat} {v : Value} {x : DataW H × List MemPlace} (h : DataW.trod enc Try.prog W 0 (fun _ => true) true fuel 31 [v] = some x) :
    ∃ g, RdG W v g ∧ ∀ l ∈ g, ∀ n ∈ l, (Lit.int .i64 n).wf = true := by
  rcases Go.Deep.open_int_rows Try.underlying31 Try.underlying22 Try.underlying2 (by kernel_rfl) (by kernel_rfl) h with ⟨hcs, hx⟩ | ⟨a, len, cap, A, L, C, Z, hcs, hb, hl, hm, hx, hr⟩
  · simp at hcs
    exact ⟨[], ⟨none, 0, 0, hcs, rfl, Nat.le_refl _, Nat.zero_le _, fun h => by omega⟩, fun n hn => by simp at hn⟩
  · simp at hcs
    refine ⟨(List.range len).map fun r => (Z r).take (L r), ⟨_, _, _, hcs, by simp, hl, hm, fun h0 => ?_⟩, ?_⟩
    · obtain ⟨b, off, spot⟩ := a
      have c0 := (hr 0 (by omega)).1
      have hspot : spot = none := by simpa [Addr.add] using World.cell?_spot c0
      subst hspot
      have hadd : ∀ i, (⟨b, off, none⟩ : Addr).add i = ⟨b, off + i, none⟩ := fun i => by unfold Addr.add; split <;> simp_all
      refine ⟨b, off, rfl, ?_, fun i hi => ?_⟩
      · rw [hadd] at c0
        exact World.block_lt_of_cell? _ _ c0
      · rw [List.length_map, List.length_range] at hi
        obtain ⟨e1, r1, r2, r3, r4, r5, r6⟩ := hr i (by omega)
        rw [hadd] at e1
        refine ⟨_, e1, ?_⟩
        rw [List.getElem_map, List.getElem_range]
        refine ⟨_, _, _, rfl, by rw [List.length_take]; omega, r1, r2, fun h0 => ?_⟩
        cases hA : A i with
        | none => have := r5 hA; omega
        | some a' =>
          obtain ⟨h7, h8⟩ := r6 a' hA
          obtain ⟨b', off', spot'⟩ := a'
          have c1 := h8 0 (by omega)
          have hspot' : spot' = none := by simpa [Addr.add] using World.cell?_spot c1
          subst hspot'
          have hadd' : ∀ i, (⟨b', off', none⟩ : Addr).add i = ⟨b', off' + i, none⟩ := fun i => by unfold Addr.add; split <;> simp_all
          refine ⟨b', off', rfl, ?_, fun j hj => ?_⟩
          · rw [hadd'] at c1
            exact World.block_lt_of_cell? _ _ c1
          · rw [List.length_take] at hj
            rw [← hadd', h8 j (by omega)]
            simp [List.getD, List.getElem?_eq_getElem (show j < (Z i).length by omega)]
    · intro l hl' n hn
      obtain ⟨r, hr', rfl⟩ := List.mem_map.1 hl'
      exact (hr r (by have := List.mem_range.1 hr'; omega)).2.2.2.2.1 n (List.mem_of_mem_take hn)

/-! The law's count of what a graph holds. -/
def szRows : Int → List (List Int) → Int
  | left, [] => left
  | left, r :: rs => if left - r.length < 0 then -1 else szRows (left - r.length) rs
def szG (g : List (List Int)) : Int := if (1048576 : Int) - g.length < 0 then -1 else szRows (1048576 - g.length) g
theorem szRows_neg : ∀ (rs : List (List Int)) (left : Int), 0 ≤ left → szRows left rs < 0 → szRows left rs = -1
  | [], left, h, h1 => by rw [szRows] at h1; omega
  | r :: rs, left, h, h1 => by
    rw [szRows] at h1 ⊢
    split
    · rfl
    · rename_i h2
      rw [if_neg h2] at h1
      exact szRows_neg rs _ (by omega) h1
theorem szRows_ok : ∀ (rs : List (List Int)) (left : Int), 0 ≤ szRows left rs → ∀ r ∈ rs, (r.length : Int) ≤ left
  | [], left, h, r, hr => by simp at hr
  | x :: rs, left, h, r, hr => by
    rw [szRows] at h
    split at h
    · omega
    · rcases List.mem_cons.1 hr with rfl | h'
      · omega
      · have := szRows_ok rs _ h r h'
        omega
theorem szG_ok (g : List (List Int)) (h : 0 ≤ szG g) : g.length ≤ 1048576 ∧ ∀ r ∈ g, r.length ≤ 1048576 := by
  unfold szG at h
  split at h
  · omega
  · refine ⟨by omega, fun r hr => ?_⟩
    have := szRows_ok g _ h r hr
    omega

theorem szInt64S_any (w : World) (v : Value) (l : List Int) (left : Int) (h : Rd w v l) (h0 : 0 ≤ left) (h1 : left ≤ 4000000000) :
    Calls Try.prog 76 #[v, .int .i64 left] w fun e w' => e = .returned (.int .i64 (if left - l.length < 0 then -1 else left - l.length)) ∧ w = w' := by
  have hlen := h.len
  unfold maxLen at hlen
  obtain ⟨A, n, c, rfl, hn, -, -, -⟩ := h
  rw [hn] at hlen ⊢
  clear hn
  have t1 : IntKind.i64.wrap (left - (n : Int)) = left - (n : Int) := IntWalk.i64_in _ (by omega)
  by_cases hs : left - (n : Int) < 0
  · rw [if_pos hs]
    go_enter Try.func76, Try.ntmps76
    go_wp2
    go_ret
    exact ⟨rfl, rfl⟩
  · rw [if_neg hs]
    go_enter Try.func76, Try.ntmps76
    go_wp2
    go_ret
    exact ⟨rfl, rfl⟩

set_option maxRecDepth 100000 in
theorem szInt64SS_any (w : World) (v : Value) (g : List (List Int)) (h : RdG w v g) :
    Calls Try.prog 33 #[v, .int .i64 1048576] w fun e w' => e = .returned (.int .i64 (szG g)) ∧ w = w' := by
  have hlen := h.len
  unfold maxLen at hlen
  obtain ⟨A, n, c, rfl, hn, -, -, r⟩ := h
  rw [hn] at hlen
  have HN := Lib.hid hn
  have t1 : IntKind.i64.wrap ((1048576 : Int) - (n : Int)) = 1048576 - (n : Int) := IntWalk.i64_in _ (by omega)
  by_cases hs : (1048576 : Int) - (n : Int) < 0
  · have HS : Hid (szG g = -1) := by show _ = _; unfold szG; rw [HN.out, if_pos hs]
    clear hn r
    go_enter Try.func33, Try.ntmps33
    go_wp2
    go_ret
    exact ⟨ret_int (by rw [HS.out]), rfl⟩
  · have HS : Hid (szG g = szRows (1048576 - (n : Int)) g) := by show _ = _; unfold szG; rw [HN.out, if_neg hs]
    have HR := Lib.hid r
    clear hn r
    go_enter Try.func33, Try.ntmps33
    go_wp2_with fail
    go_loop [1, 5] (fun l i => ∃ (k : Nat) (left : Int), k ≤ n ∧ i = .int .i64 k ∧ l = .int .i64 left ∧ 0 ≤ left ∧ left ≤ 1048576 ∧ szRows left (g.drop k) = szG g) (fun _ i => n - (intOf i).toNat)
    case atStart => exact ⟨0, _, Nat.zero_le _, rfl, rfl, by omega, by omega, by rw [HS.out]; rfl⟩
    case round =>
      obtain ⟨k, left, hk, rfl, rfl, l0, l1, hsz⟩ := hrel
      by_cases hlt : k < n
      · obtain ⟨b, o, rfl, hlt0, hc⟩ := HR.out (by omega)
        have hkl : k < g.length := by have := HN.out; omega
        obtain ⟨u, hc0, hrd⟩ := hc k hkl
        rw [List.drop_eq_getElem_cons hkl, szRows] at hsz
        have HRD := Lib.hid hrd
        have HSZ := Lib.hid hsz
        have hk0 : (0 : Int) ≤ (k : Int) := by omega
        have hk1 : (k : Int) < (n : Int) := by omega
        clear hc hsz hrd
        generalize g[k] = row at *
        go_wp2_with fail
        refine (szInt64S_any _ _ row _ HRD.out l0 (by omega)).mono ?_; rintro e w' ⟨rfl, rfl⟩
        by_cases hs2 : left - (row.length : Int) < 0
        · rw [if_pos hs2]
          have HE : Hid (szG g = -1) := by show _ = _; have := HSZ.out; rw [if_pos hs2] at this; exact this.symm
          go_wp2_with fail
          go_ret
          exact ⟨ret_int (by rw [HE.out]), rfl⟩
        · rw [if_neg hs2]
          have HE : Hid (szRows (left - (row.length : Int)) (g.drop (k + 1)) = szG g) := by show _ = _; have := HSZ.out; rw [if_neg hs2] at this; exact this
          go_wp2_with fail
          go_round
          case rel => exact ⟨k + 1, _, by omega, by go_num, rfl, by omega, by omega, HE.out⟩
          case measure => simp [intOf]; omega
      · obtain rfl : k = n := by omega
        have HE : Hid (left = szG g) := by show _ = _; rw [List.drop_of_length_le (by have := HN.out; omega), szRows] at hsz; exact hsz
        clear hsz
        go_wp2_with fail
        go_ret
        exact ⟨ret_int HE.out, rfl⟩

theorem szG_neg (g : List (List Int)) (h : szG g < 0) : szG g = -1 := by
  unfold szG at h ⊢
  split
  · rfl
  · rename_i h2
    rw [if_neg h2] at h
    exact szRows_neg g _ (by omega) h

/-- A row of rows of the call's own: its cells, each of which reads as its numbers, from another block on. -/
def OwnSS (w : World) (base : Nat) (v : Value) (us : List Value) (g : List (List Int)) : Prop :=
  w.ownsRow base 22 1 v us.length us ∧ us.length = g.length ∧ (∀ k, v.ownBlock = some k → k = base) ∧ ∀ i (h : i < g.length) (h' : i < us.length), Own w (base + 1) us[i] g[i]
theorem OwnSS.rdg {w : World} {base : Nat} {v : Value} {us : List Value} {g : List (List Int)} (h : OwnSS w base v us g) : RdG w v g := by
  obtain ⟨hown, hl, -, hin⟩ := h
  have hlen := own_len hown
  rcases hown.2 with ⟨rfl, h0⟩ | ⟨b, cap, cur, rfl, h1, hg, h2, h3, h4, h5⟩
  · exact ⟨none, 0, 0, rfl, by omega, Nat.le_refl _, Nat.zero_le _, fun h => by omega⟩
  · refine ⟨_, _, _, rfl, by omega, h2, h3, fun h0 => ⟨b, 0, rfl, ?_, fun i hi => ⟨us[i]'(by omega), ?_, (hin i hi (by omega)).rd⟩⟩⟩
    · rcases Nat.lt_or_ge b w.heap.size with h' | h'
      · exact h'
      · rw [Array.getElem?_eq_none h'] at hg; cases hg
    · have := (World.ownsRow.cellAt (w := w) (base := base) hown i (by omega))
      rw [List.getElem?_eq_getElem (by omega)] at this
      rw [Nat.zero_add]; exact this

def nilV : Value := .slice none 0 0
theorem nil_set (us : List Value) (n j : Nat) (x : Value) (hus : us.length = j) (hj : j < n) : (us ++ List.replicate (n - j) nilV).set j x = (us ++ [x]) ++ List.replicate (n - (j + 1)) nilV := by
  rw [List.set_append, if_neg (by omega), hus, Nat.sub_self]
  obtain ⟨m, hm⟩ : ∃ m, n - j = m + 1 := ⟨n - j - 1, by omega⟩
  rw [hm, show n - (j + 1) = m from by omega, List.replicate_succ]
  simp
theorem ins_next {w5 : World} {B : Nat} {us : List Value} {x : Value} {g : List (List Int)} {j : Nat} (hus : us.length = j) (hj : j < g.length) (hin : ∀ y (h : y < g.length) (h' : y < us.length), Own w5 (B + 1) us[y] g[y]) (hx : Own w5 (B + 1) x g[j]) (o : Nat) (v : Value) :
    ∀ y (h : y < g.length) (h' : y < (us ++ [x]).length), Own (w5.setCell ⟨B, o, none⟩ v) (B + 1) (us ++ [x])[y] g[y] := by
  intro y h h'
  refine ownsRow_setCell_below ?_ (by simp) _
  by_cases hy : y < us.length
  · rw [List.getElem_append_left hy]; exact hin y h hy
  · have : y = j := by simp at h'; omega
    subst this
    rw [List.getElem_append_right (by omega)]
    simpa [Own, hus] using hx

set_option maxRecDepth 100000 in
theorem toInt64SS_any (w : World) (v : Value) (g : List (List Int)) (h : RdG w v g) (hl : g.length ≤ 4000000) (hr : ∀ r ∈ g, r.length ≤ 4000000) :
    Calls Try.prog 35 #[v] w fun e w' => ∃ u us, e = .returned u ∧ OwnSS w' w.heap.size u us g ∧ Below w.heap.size w w' := by
  obtain ⟨i0, hi, hz0, hz1, hz2⟩ := info_parts Try.infoRow
  obtain ⟨A, n, c, rfl, hn, -, -, r⟩ := h
  rw [hn] at hl
  have HN := Lib.hid hn
  have HR := Lib.hid r
  have HL := Lib.hid hr
  clear hn r hr
  go_enter Try.func35, Try.ntmps35
  go_wp2_with (at_make; refine wpList_make_full _ rfl _ _ 31 rfl w.heap.size 22 i0 (.slice none 0 0) 1 Try.underlying31 hi hz0 hz1 _ _ _ _ n rfl rfl rfl rfl ?b2 ?b3 (Nat.le_refl _) ?_)
  case b2 => rw [hz2]; omega
  case b3 => unfold maxLen; omega
  intro w1 hown hgrow
  have hb1 : Below w.heap.size w w1 := (Below.refl _ _).grown hgrow (Nat.le_refl _) (by simp)
  rw [toList_madeCells_one] at hown
  have hsz1 : w.heap.size < w1.heap.size := by
    rcases hown.2 with ⟨h', _⟩ | ⟨g', cap, cur, h', _, hg, _⟩
    · cases h'
    · injection h' with h' _ _
      injection h' with h'
      injection h' with h' _ _
      subst h'
      rcases Nat.lt_or_ge w.heap.size w1.heap.size with hl | hl
      · exact hl
      · rw [Array.getElem?_eq_none hl] at hg; cases hg
  clear hgrow
  go_wp2_with fail
  go_loopw [4] (fun i wr => ∃ (j : Nat) (us : List Value), j ≤ n ∧ us.length = j ∧ i = .int .i64 j ∧ wr.ownsRow w.heap.size 22 1 (.slice (some ⟨w.heap.size, 0, none⟩) n n) n (us ++ List.replicate (n - j) nilV) ∧ (∀ x (h : x < g.length) (h' : x < us.length), Own wr (w.heap.size + 1) us[x] g[x]) ∧ Below w.heap.size w wr ∧ w.heap.size < wr.heap.size) (fun i _ => n - (intOf i).toNat)
  case atStart => exact ⟨0, [], Nat.zero_le _, rfl, rfl, hown, fun x _ h' => by simp at h', hb1, hsz1⟩
  case round =>
    obtain ⟨j, us, hj, hus, rfl, hown1, hin, hb, hsz⟩ := hrel
    have HIN := Lib.hid hin
    have HUS := Lib.hid hus
    have HB := Lib.hid hb
    have HSZ := Lib.hid hsz
    clear hown hb1 hsz1 hin hus hb hsz
    by_cases hlt : j < n
    · obtain ⟨b, o, rfl, hlt0, hc⟩ := HR.out (by omega)
      have hjl : j < g.length := by have := HN.out; omega
      obtain ⟨u, hc0', hrd⟩ := hc j hjl
      have hc0 := (HB.out.cell (p := ⟨b, o + j, none⟩) hlt0).trans hc0'
      have hrl := HL.out g[j] (List.getElem_mem hjl)
      have HRD := Lib.hid (hrd.keep HB.out)
      have hk0 : (0 : Int) ≤ (j : Int) := by omega
      have hk1 : (j : Int) < (n : Int) := by omega
      clear hc hrd hc0'
      go_wp2_with fail
      refine (toInt64S_any _ u g[j] HRD.out hrl).mono ?_; rintro e w5 ⟨x, rfl, ho5, hb5⟩
      obtain ⟨Ax, cx, hx⟩ := own_shape ho5
      subst hx
      have hown5 := own_below hown1 hb5
      have hfr := hown5.frozenAt j
      have hcl := hown5.cellAt j (by omega)
      obtain ⟨y, hy⟩ : ∃ y, (us ++ List.replicate (n - j) nilV)[j]? = some y := ⟨_, List.getElem?_eq_getElem (by simp; have := HUS.out; omega)⟩
      rw [hy] at hcl
      have hst := (hown5.stored j (.slice Ax g[j].length cx)).1
      rw [nil_set us n j _ HUS.out hlt] at hst
      have HST := Lib.hid hst
      have HI2 := Lib.hid (ins_next (w5 := w5) (B := w.heap.size) HUS.out hjl (fun y h h' => own_below (HIN.out y h h') hb5) (Own.base ho5 (by have := HSZ.out; omega)) j (.slice Ax g[j].length cx))
      have HB2 := Lib.hid ((HB.out.trans (hb5.mono HB.out.size)).setCell (p := ⟨w.heap.size, j, none⟩) (Nat.le_refl _) (.slice Ax g[j].length cx))
      have HSZ2 : Hid (w.heap.size < (w5.setCell ⟨w.heap.size, j, none⟩ (.slice Ax g[j].length cx)).heap.size) := by
        show _ < _
        have h1 := hb5.size
        have h2 := HSZ.out
        simp [World.setCell]; omega
      clear hst hy hown1 hown5 hb5 ho5 hc0 hrl
      go_wp2_with fail
      go_roundw
      case rel => exact ⟨j + 1, us ++ [.slice Ax g[j].length cx], by omega, by simp [HUS.out], by go_num, HST.out, HI2.out, HB2.out, HSZ2.out⟩
      case measure => simp [intOf]; omega
    · obtain rfl : j = n := by omega
      have hO : OwnSS wr w.heap.size (.slice (some ⟨w.heap.size, 0, none⟩) j j) us g := by
        refine ⟨?_, by rw [HUS.out, HN.out], fun k hk => by simp [Value.ownBlock] at hk; exact hk.symm, HIN.out⟩
        rw [HUS.out]
        simpa using hown1
      have HO := Lib.hid hO
      clear hO hown1
      go_wp2_with fail
      go_ret
      exact ⟨_, us, rfl, HO.out, HB.out⟩

theorem rdg_shape {w : World} {v : Value} {g : List (List Int)} (h : RdG w v g) : ∃ A c, v = .slice A g.length c := by
  obtain ⟨A, n, c, e, hn, -⟩ := h
  exact ⟨A, c, by rw [e, hn]⟩

theorem OwnSS.set {w : World} {base : Nat} {v : Value} {us : List Value} {g : List (List Int)} (h : OwnSS w base v us g) {a : Addr} (ha : a.block < base) (x : Value) : OwnSS (w.setCell a x) base v us g :=
  ⟨ownsRow_setCell_below h.1 ha x, h.2.1, h.2.2.1, fun i hi hi' => ownsRow_setCell_below (h.2.2.2 i hi hi') (by omega) x⟩
theorem rdg_sh {w : World} {v : Value} {g : List (List Int)} (h : RdG w v g) : ∃ A n c, v = .slice A n c := by
  obtain ⟨A, n, c, e, -⟩ := h
  exact ⟨A, n, c, e⟩
/-- A block of one cell. -/
def OneC (W : World) (b : Nat) (x : Value) : Prop := W.cell? ⟨b, 0, none⟩ = some x ∧ W.frozen? ⟨b, 0, none⟩ = false ∧ b < W.heap.size
theorem OneC.new (w : World) (x : Value) (t : TypeId) : OneC (w.alloc (.cells #[x] t)) w.heap.size x :=
  ⟨World.cell?_alloc_at _ _ _ _ rfl, World.frozen?_alloc_at _ _ _ _ rfl, by simp⟩
theorem OneC.keep {W W' : World} {b : Nat} {x : Value} (h : OneC W b x) (hb : Below W.heap.size W W') : OneC W' b x :=
  ⟨(hb.cell (p := ⟨b, 0, none⟩) h.2.2).trans h.1, (hb.frozen (p := ⟨b, 0, none⟩) h.2.2).trans h.2.1, Nat.lt_of_lt_of_le h.2.2 hb.size⟩
theorem OneC.alloc {W : World} {b : Nat} {x : Value} (h : OneC W b x) (o : Obj) : OneC (W.alloc o) b x := h.keep ((Below.refl _ _).alloc (Nat.le_refl _) o)

set_option maxRecDepth 100000 in
theorem eqInt64SS_rd (w : World) (v1 v2 : Value) (g : List (List Int)) (h1 : RdG w v1 g) (h2 : RdG w v2 g) :
    Calls Try.prog 25 #[v1, v2] w fun e w' => e = .returned (.bool true) ∧ ∃ q, w' = w.drewN q := by
  have hlen := h1.len
  obtain ⟨A1, n, c1, rfl, hn, -, -, r1⟩ := h1
  obtain ⟨A2, n2, c2, rfl, hn2, -, -, r2⟩ := h2
  obtain rfl : n = n2 := by omega
  have hne : ((n : Int) != (n : Int)) = false := by simp
  have hnl : n ≤ 9223372036854775807 := by unfold maxLen at hlen; omega
  clear hlen
  by_cases h0 : n = 0
  · subst h0
    clear r1 r2
    go_enter Try.func25, Try.ntmps25
    go_wp2_with fail
    refine wp_loop_rounds 1 ?_
    rw [rounds_succ]
    go_wp2_with fail
    go_ret
    exact ⟨rfl, 0, rfl⟩
  · obtain ⟨b1, o1, rfl, -, k1⟩ := r1 (by omega)
    obtain ⟨b2, o2, rfl, -, k2⟩ := r2 (by omega)
    have K1 := Lib.hid k1
    have K2 := Lib.hid k2
    have HN := Lib.hid hn
    clear r1 r2 k1 k2 hn hn2 h0
    go_enter Try.func25, Try.ntmps25
    go_wp2_with fail
    go_loopw [5] (fun i wr => ∃ k q : Nat, k ≤ n ∧ i = .int .i64 k ∧ wr = w.drewN q) (fun i _ => n - (intOf i).toNat)
    case atStart => exact ⟨0, 0, Nat.zero_le _, rfl, rfl⟩
    case round =>
      obtain ⟨k, q, hk, rfl, rfl⟩ := hrel
      by_cases hlt : k < n
      · have hk0 : (0 : Int) ≤ (k : Int) := by omega
        have hk1 : (k : Int) < (n : Int) := by omega
        obtain ⟨u1, hc1, hr1⟩ := K1.out k (by have := HN.out; omega)
        obtain ⟨u2, hc2, hr2⟩ := K2.out k (by have := HN.out; omega)
        have HE : Hid (∀ q', Calls Try.prog 18 #[u1, u2] (w.drewN (q + q')) fun e w'' => e = .returned (.bool true) ∧ ∃ m, w'' = w.drewN (q + m)) := by
          show ∀ q', _
          intro q'
          exact (eqInt64S_rd _ _ _ _ (hr1.drewN (q + q')) (hr2.drewN (q + q'))).mono fun _ _ ⟨he, m, hm⟩ => ⟨he, q' + m, by rw [hm, World.drewN_drewN, Nat.add_assoc]⟩
        clear hr1 hr2
        go_wp2_with fail
        go_quiet ((go_at_call 18; exact HE.out _))
        go_wp2_with fail
        go_roundw
        case rel => exact ⟨k + 1, _, by omega, by go_num, rfl⟩
        case measure => simp [intOf]; omega
      · go_wp2_with fail
        go_ret
        exact ⟨rfl, _, rfl⟩

end Go.Proofs.Ytjhgkkecconcaab
