/- A law's copy of a graph is the call's own, and apart from what else lies there: it can be marked. -/
import Derived.Test.YtllkojakeoennabGmx
import Derived.Test.YtllkojakeoennabRcf
namespace Go.Proofs.Ytllkojakeoennab.Gmx
open Go Go.RowKit
set_option linter.unusedVariables false

theorem own_in_lt {W : World} {base : Nat} {v : Value} {l : List Int} (h : Own W base v l) : ∀ k, v.ownBlock = some k → k < W.heap.size := fun k hk => (World.ownsRow.lt h k hk).2
theorem apart_next {wr w5 : World} {B j : Nat} {us : List Value} {x : Value} {g : List (List Int)} {l : List Int} (hus : us.length = j) (hj : j < g.length) (hin : ∀ y (h : y < g.length) (h' : y < us.length), Own wr B us[y] g[y]) (hap : us.Pairwise apart2) (hx : Own w5 wr.heap.size x l) :
    (us ++ [x]).Pairwise apart2 := by
  rw [List.pairwise_append]
  refine ⟨hap, List.pairwise_singleton _ _, fun u hu y hy => ?_⟩
  obtain rfl := List.mem_singleton.1 hy
  obtain ⟨i, hi, rfl⟩ := List.getElem_of_mem hu
  intro k hk e
  have h1 := own_in_lt (hin i (by omega) hi) k hk
  rcases hx.2 with ⟨rfl, _⟩ | ⟨b, cap, cur, rfl, h2, _⟩
  · cases e
  · simp only [Value.ownBlock, Option.some.injEq] at e
    omega
theorem ownG_of {W : World} {base lo : Nat} {v : Value} {us : List Value} {g : List (List Int)} (h : OwnSS W base v us g) (ha : us.Pairwise apart2) (hle : lo ≤ base) : OwnG W lo W.heap.size v us g := by
  refine ⟨⟨h.1.1, ?_⟩, h.2.1, fun i h1 h2 => Own.base (h.2.2.2 i h1 h2) (by omega), ha, fun k hk => (World.ownsRow.lt h.1 k hk).2, fun u hu k hk => ?_, Nat.le_refl _⟩
  · rcases h.1.2 with h' | ⟨b, cap, cur, h1, h2, h3⟩
    · exact .inl h'
    · exact .inr ⟨b, cap, cur, h1, by omega, h3⟩
  · obtain ⟨i, hi, rfl⟩ := List.getElem_of_mem hu
    exact own_in_lt (h.2.2.2 i (by rw [← h.2.1]; exact hi) hi) k hk
theorem ownG_drew {w : World} {lo hi : Nat} {v : Value} {us : List Value} {g : List (List Int)} (h : OwnG w lo hi v us g) : OwnG w.drew lo hi v us g := h.keep (Below.refl _ _).drew

/-! What the law holds while one of its own rows is marked. -/
theorem oneC_chg {W W' : World} {b lo hi : Nat} {x : Value} (h : OneC W b x) (hc : Chg lo hi W W') (hb : b < lo ∨ hi ≤ b) : OneC W' b x :=
  ⟨(World.cell?_of_block (hc.block _ hb)).trans h.1, (World.frozen?_of_block (hc.block _ hb)).trans h.2.1, by rw [hc.size]; exact h.2.2⟩
theorem ownIn_chg {w w' : World} {lo hi lo2 hi2 : Nat} {v : Value} {l : List Int} (h : OwnIn w lo hi v l) (hc : Chg lo2 hi2 w w') (hd : hi ≤ lo2 ∨ hi2 ≤ lo) : OwnIn w' lo hi v l :=
  ⟨own_chg h.1 hc (fun k hk => by have := h.2.1 k hk; omega), h.2.1, by rw [hc.size]; exact h.2.2⟩

/-! What a law's count of a graph that fits says of all its numbers. -/
theorem szRows_tot : ∀ (rs : List (List Int)) (left : Int), 0 ≤ szRows left rs → (tot rs : Int) ≤ left
  | [], left, h => by rw [szRows] at h; simpa [tot] using h
  | r :: rs, left, h => by
    rw [szRows] at h
    split at h
    · omega
    · have := szRows_tot rs _ h
      have e : tot (r :: rs) = r.length + tot rs := by simp [tot]
      omega
theorem szG_tot (g : List (List Int)) (h : 0 ≤ szG g) : tot g ≤ 1048576 := by
  unfold szG at h
  split at h
  · omega
  · have := szRows_tot g _ h
    omega

set_option maxRecDepth 100000 in
theorem toInt64SS_own (w : World) (v : Value) (g : List (List Int)) (h : RdG w v g) (hl : g.length ≤ 4000000) (hr : ∀ r ∈ g, r.length ≤ 4000000) :
    Calls Try.prog 98 #[v] w fun e w' => ∃ u us, e = .returned u ∧ OwnSS w' w.heap.size u us g ∧ us.Pairwise apart2 ∧ Below w.heap.size w w' := by
  obtain ⟨i0, hi, hz0, hz1, hz2⟩ := info_parts Try.infoRow
  obtain ⟨A, n, c, rfl, hn, -, -, r⟩ := h
  rw [hn] at hl
  have HN := Lib.hid hn
  have HR := Lib.hid r
  have HL := Lib.hid hr
  clear hn r hr
  go_enter Try.func98, Try.ntmps98
  go_wp2_with (at_make; refine wpList_make_full _ rfl _ _ 48 rfl w.heap.size 22 i0 (.slice none 0 0) 1 Try.underlying48 hi hz0 hz1 _ _ _ _ n rfl rfl rfl rfl ?b2 ?b3 (Nat.le_refl _) ?_)
  case b2 => rw [hz2]; omega
  case b3 => unfold maxLen; omega
  intro w1 hown hgrow
  have hb1 : Below w.heap.size w w1 := (Below.refl _ _).grown hgrow (Nat.le_refl _) (by simp)
  rw [toList_madeCells_one] at hown
  have hsz1 : w.heap.size < w1.heap.size := by
    rcases hown.2 with ⟨h', _⟩ | ⟨g', cap, cur, h', _, hg, _⟩
    · cases h'
    · injection h' with h' _ _
      injection h' with h'
      injection h' with h' _ _
      subst h'
      rcases Nat.lt_or_ge w.heap.size w1.heap.size with hl | hl
      · exact hl
      · rw [Array.getElem?_eq_none hl] at hg; cases hg
  clear hgrow
  go_wp2_with fail
  go_loopw [4] (fun i wr => ∃ (j : Nat) (us : List Value), j ≤ n ∧ us.length = j ∧ i = .int .i64 j ∧ wr.ownsRow w.heap.size 22 1 (.slice (some ⟨w.heap.size, 0, none⟩) n n) n (us ++ List.replicate (n - j) nilV) ∧ (∀ x (h : x < g.length) (h' : x < us.length), Own wr (w.heap.size + 1) us[x] g[x]) ∧ us.Pairwise apart2 ∧ Below w.heap.size w wr ∧ w.heap.size < wr.heap.size) (fun i _ => n - (intOf i).toNat)
  case atStart => exact ⟨0, [], Nat.zero_le _, rfl, rfl, hown, fun x _ h' => by simp at h', List.Pairwise.nil, hb1, hsz1⟩
  case round =>
    obtain ⟨j, us, hj, hus, rfl, hown1, hin, hap, hb, hsz⟩ := hrel
    have HAP := Lib.hid hap
    have HIN := Lib.hid hin
    have HUS := Lib.hid hus
    have HB := Lib.hid hb
    have HSZ := Lib.hid hsz
    clear hown hb1 hsz1 hin hus hap hb hsz
    by_cases hlt : j < n
    · obtain ⟨b, o, rfl, hlt0, hc⟩ := HR.out (by omega)
      have hjl : j < g.length := by have := HN.out; omega
      obtain ⟨u, hc0', hrd⟩ := hc j hjl
      have hc0 := (HB.out.cell (p := ⟨b, o + j, none⟩) hlt0).trans hc0'
      have hrl := HL.out g[j] (List.getElem_mem hjl)
      have HRD := Lib.hid (hrd.keep HB.out)
      have hk0 : (0 : Int) ≤ (j : Int) := by omega
      have hk1 : (j : Int) < (n : Int) := by omega
      clear hc hrd hc0'
      go_wp2_with fail
      refine (toInt64S_any _ u g[j] HRD.out hrl).mono ?_; rintro e w5 ⟨x, rfl, ho5, hb5⟩
      obtain ⟨Ax, cx, hx⟩ := own_shape ho5
      subst hx
      have hown5 := own_below hown1 hb5
      have hfr := hown5.frozenAt j
      have hcl := hown5.cellAt j (by omega)
      obtain ⟨y, hy⟩ : ∃ y, (us ++ List.replicate (n - j) nilV)[j]? = some y := ⟨_, List.getElem?_eq_getElem (by simp; have := HUS.out; omega)⟩
      rw [hy] at hcl
      have hst := (hown5.stored j (.slice Ax g[j].length cx)).1
      rw [nil_set us n j _ HUS.out hlt] at hst
      have HST := Lib.hid hst
      have HAP2 := Lib.hid (apart_next HUS.out hjl HIN.out HAP.out ho5)
      have HI2 := Lib.hid (ins_next (w5 := w5) (B := w.heap.size) HUS.out hjl (fun y h h' => own_below (HIN.out y h h') hb5) (Own.base ho5 (by have := HSZ.out; omega)) j (.slice Ax g[j].length cx))
      have HB2 := Lib.hid ((HB.out.trans (hb5.mono HB.out.size)).setCell (p := ⟨w.heap.size, j, none⟩) (Nat.le_refl _) (.slice Ax g[j].length cx))
      have HSZ2 : Hid (w.heap.size < (w5.setCell ⟨w.heap.size, j, none⟩ (.slice Ax g[j].length cx)).heap.size) := by
        show _ < _
        have h1 := hb5.size
        have h2 := HSZ.out
        simp [World.setCell]; omega
      clear hst hy hown1 hown5 hb5 ho5 hc0 hrl
      go_wp2_with fail
      go_roundw
      case rel => exact ⟨j + 1, us ++ [.slice Ax g[j].length cx], by omega, by simp [HUS.out], by go_num, HST.out, HI2.out, HAP2.out, HB2.out, HSZ2.out⟩
      case measure => simp [intOf]; omega
    · obtain rfl : j = n := by omega
      have hO : OwnSS wr w.heap.size (.slice (some ⟨w.heap.size, 0, none⟩) j j) us g := by
        refine ⟨?_, by rw [HUS.out, HN.out], fun k hk => by simp [Value.ownBlock] at hk; exact hk.symm, HIN.out⟩
        rw [HUS.out]
        simpa using hown1
      have HO := Lib.hid hO
      clear hO hown1
      go_wp2_with fail
      go_ret
      exact ⟨_, us, rfl, HO.out, HAP.out, HB.out⟩

theorem toGraph_own (w : World) (v : Value) (g : List (List Int)) (h : RdG w v g) (hl : g.length ≤ 4000000) (hr : ∀ r ∈ g, r.length ≤ 4000000) :
    Calls Try.prog 43 #[.agg #[v]] w fun e w' => ∃ u us, e = .returned (.agg #[u]) ∧ OwnG w' w.heap.size w'.heap.size u us g ∧ Below w.heap.size w w' := by
  have H := Lib.hid (fun o1 o2 o3 => ((h.keep ((Below.refl _ _).alloc (Nat.le_refl _) o1)).keep ((Below.refl _ _).alloc (Nat.le_refl _) o2)).keep ((Below.refl _ _).alloc (Nat.le_refl _) o3))
  have HL := Lib.hid hl
  have HR := Lib.hid hr
  obtain ⟨A, c, e⟩ := rdg_shape h
  have HE := Lib.hid e
  generalize g.length = n at e
  subst e
  clear h hl hr
  have o2 := (OneC.new (w.alloc (.cells #[.slice A n c] 50)) (.slice none 0 0) 53).alloc (.cells #[.slice none 0 0] 53)
  have o3 := OneC.new ((w.alloc (.cells #[.slice A n c] 50)).alloc (.cells #[.slice none 0 0] 53)) (.slice none 0 0) 53
  have hbw : Below w.heap.size w (((w.alloc (.cells #[.slice A n c] 50)).alloc (.cells #[.slice none 0 0] 53)).alloc (.cells #[.slice none 0 0] 53)) :=
    (((Below.refl _ _).alloc (Nat.le_refl _) _).alloc (by simp) _).alloc (by simp; omega) _
  have O2 := Lib.hid o2
  have O3 := Lib.hid o3
  have HBW := Lib.hid hbw
  clear o2 o3 hbw
  go_enter Try.func43, Try.ntmps43
  go_wp2_with fail
  refine (toInt64SS_own _ _ g (H.out _ _ _) HL.out HR.out).mono ?_; rintro e w1 ⟨u, us, rfl, ho, hap, hb⟩
  obtain ⟨Au, cu, rfl⟩ := own_shape ho.1
  have HG := Lib.hid (ownG_of ((ho.set (a := ⟨w.heap.size + 1 + 1, 0, none⟩) (by simp) (.slice Au us.length cu)).set (a := ⟨w.heap.size + 1, 0, none⟩) (by simp) (.slice Au us.length cu)) hap (lo := w.heap.size) (by simp; omega))
  have HB := Lib.hid (HBW.out.trans (hb.mono HBW.out.size))
  obtain ⟨p1, p2, p3⟩ := O2.out.keep hb
  obtain ⟨p4, p5, p6⟩ := O3.out.keep hb
  simp only [World.size_alloc] at p1 p2 p3 p4 p5 p6
  clear ho hap hb
  generalize us.length = m at *
  go_wp2_with fail
  refine bodyPost_ret (v := .agg #[.slice Au m cu]) (by simp [results, Try.results43, go_sem, p1]) rfl ⟨_, us, rfl, HG.out, ?_⟩
  exact (HB.out.setCell (by show w.heap.size ≤ w.heap.size + 1 + 1; omega) _).setCell (by show w.heap.size ≤ w.heap.size + 1; omega) _

end Go.Proofs.Ytllkojakeoennab.Gmx
