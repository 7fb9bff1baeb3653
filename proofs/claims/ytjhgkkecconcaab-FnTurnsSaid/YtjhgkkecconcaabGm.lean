/- Rows of rows that a call itself has made: they can be marked and held. -/
import Derived.Test.YtjhgkkecconcaabGr
namespace Go.Proofs.Ytjhgkkecconcaab
open Go Go.RowKit
set_option linter.unusedVariables false

/-- Nothing but blocks from lo on and below hi has turned. -/
structure ChgG (lo hi : Nat) (w w' : World) : Prop where
  os : w'.os = w.os
  tape : w'.tape = w.tape
  output : w'.output = w.output
  size : w'.heap.size = w.heap.size
  block : ∀ k, (k < lo ∨ hi ≤ k) → w'.heap[k]? = w.heap[k]?
theorem ChgG.refl (lo hi : Nat) (w : World) : ChgG lo hi w w := ⟨rfl, rfl, rfl, rfl, fun _ _ => rfl⟩
theorem ChgG.trans {lo hi : Nat} {a b c : World} (h : ChgG lo hi a b) (k : ChgG lo hi b c) : ChgG lo hi a c :=
  ⟨k.os.trans h.os, k.tape.trans h.tape, k.output.trans h.output, k.size.trans h.size, fun x hx => (k.block x hx).trans (h.block x hx)⟩
theorem ChgG.of {lo hi : Nat} {w w' : World} {row : Option Nat} (hg : w.grownBy w' row) (hz : w'.heap.size = w.heap.size) (hr : ∀ k, row = some k → lo ≤ k ∧ k < hi) : ChgG lo hi w w' := by
  refine ⟨hg.os, hg.tape, hg.output, hz, fun k hk => ?_⟩
  rcases Nat.lt_or_ge k w.heap.size with h' | h'
  · refine hg.block k h' fun e => ?_
    have := hr k e.symm
    omega
  · rw [Array.getElem?_eq_none h', Array.getElem?_eq_none (by omega)]
theorem ChgG.below {lo hi B : Nat} {a w w' : World} (hb : Below B a w) (h : ChgG lo hi w w') (hB : B ≤ lo) : Below B a w' :=
  hb.trans ⟨h.os, h.tape, h.output, by rw [h.size]; exact Nat.le_refl _, fun k hk => h.block k (Or.inl (by omega))⟩

def apart2 (a b : Value) : Prop := ∀ k, a.ownBlock = some k → b.ownBlock ≠ some k
/-- A row of rows of the call's own, in a range of blocks. -/
structure OwnG (w : World) (lo hi : Nat) (v : Value) (us : List Value) (g : List (List Int)) : Prop where
  row : w.ownsRow lo 22 1 v us.length us
  len : us.length = g.length
  each : ∀ i (h : i < g.length) (h' : i < us.length), Own w lo us[i] g[i]
  apart : us.Pairwise apart2
  top : ∀ k, v.ownBlock = some k → k < hi
  tops : ∀ u ∈ us, ∀ k, u.ownBlock = some k → k < hi
  size : hi ≤ w.heap.size

theorem own_ne {w : World} {B : Nat} {v u : Value} {n m : Nat} {xs : List Value} {l : List Int} (h : w.ownsRow B 22 1 v n xs) (h2 : w.ownsRow B 2 1 u m (intVals l)) : v.ownBlock = none ∨ v.ownBlock ≠ u.ownBlock := by
  rcases h.2 with ⟨rfl, _⟩ | ⟨g, cap, cur, rfl, _, hg, _⟩
  · exact .inl rfl
  · rcases h2.2 with ⟨rfl, _⟩ | ⟨g2, cap2, cur2, rfl, _, hg2, _⟩
    · exact .inr (by simp [Value.ownBlock])
    · refine .inr fun e => ?_
      simp only [Value.ownBlock, Option.some.injEq] at e
      subst e
      rw [hg] at hg2
      simp only [Option.some.injEq, Obj.cells.injEq] at hg2
      exact absurd hg2.2.1 (by decide)

theorem OwnG.rdg {w : World} {lo hi : Nat} {v : Value} {us : List Value} {g : List (List Int)} (h : OwnG w lo hi v us g) : RdG w v g := by
  obtain ⟨hown, hl, hin, -, -, -, -⟩ := h
  have hlen := own_len hown
  rcases hown.2 with ⟨rfl, h0⟩ | ⟨b, cap, cur, rfl, h1, hg, h2, h3, h4, h5⟩
  · exact ⟨none, 0, 0, rfl, by omega, Nat.le_refl _, Nat.zero_le _, fun h => by omega⟩
  · refine ⟨_, _, _, rfl, by omega, h2, h3, fun h0 => ⟨b, 0, rfl, ?_, fun i hi => ⟨us[i]'(by omega), ?_, (hin i hi (by omega)).rd⟩⟩⟩
    · rcases Nat.lt_or_ge b w.heap.size with h' | h'
      · exact h'
      · rw [Array.getElem?_eq_none h'] at hg; cases hg
    · have := (World.ownsRow.cellAt (w := w) (base := lo) hown i (by omega))
      rw [List.getElem?_eq_getElem (by omega)] at this
      rw [Nat.zero_add]; exact this
theorem OwnG.keep {w w' : World} {lo hi : Nat} {v : Value} {us : List Value} {g : List (List Int)} (h : OwnG w lo hi v us g) (hb : Below w.heap.size w w') : OwnG w' lo hi v us g :=
  ⟨own_below h.row hb, h.len, fun i h1 h2 => own_below (h.each i h1 h2) hb, h.apart, h.top, h.tops, Nat.le_trans h.size hb.size⟩
theorem OwnG.drewN {w : World} {lo hi : Nat} {v : Value} {us : List Value} {g : List (List Int)} (h : OwnG w lo hi v us g) (q : Nat) : OwnG (w.drewN q) lo hi v us g :=
  ⟨h.row, h.len, h.each, h.apart, h.top, h.tops, by simpa using h.size⟩
theorem own_chg {w w' : World} {lo hi base : Nat} {e : TypeId} {size n : Nat} {v : Value} {xs : List Value} (h : w.ownsRow base e size v n xs) (hc : ChgG lo hi w w') (hk : ∀ k, v.ownBlock = some k → k < lo ∨ hi ≤ k) : w'.ownsRow base e size v n xs := by
  refine ⟨h.1, ?_⟩
  rcases h.2 with h' | ⟨g, cap, cur, rfl, h1, hg, h2⟩
  · exact .inl h'
  · exact .inr ⟨g, cap, cur, rfl, h1, by rw [hc.block g (hk g rfl)]; exact hg, h2⟩
theorem OwnG.other {w w' : World} {lo hi lo2 hi2 : Nat} {v : Value} {us : List Value} {g : List (List Int)} (h : OwnG w lo hi v us g) (hc : ChgG lo2 hi2 w w') (hd : hi ≤ lo2) : OwnG w' lo hi v us g :=
  ⟨own_chg h.row hc (fun k hk => Or.inl (by have := h.top k hk; omega)), h.len, fun i h1 h2 => own_chg (h.each i h1 h2) hc (fun k hk => Or.inl (by have := h.tops _ (List.getElem_mem h2) k hk; omega)), h.apart, h.top, h.tops, by rw [hc.size]; exact h.size⟩

def tot (g : List (List Int)) : Nat := (g.map List.length).sum
theorem tot_snoc (g : List (List Int)) (k : Nat) (h : k < g.length) : tot (g.take (k + 1)) = tot (g.take k) + g[k].length := by
  rw [List.take_succ_eq_append_getElem h]
  unfold tot
  rw [List.map_append, List.sum_append_nat]
  simp
theorem tot_le (g : List (List Int)) (k : Nat) : tot (g.take k) ≤ tot g := by
  have e : tot g = tot (g.take k) + tot (g.drop k) := by
    have : g = g.take k ++ g.drop k := (List.take_append_drop k g).symm
    unfold tot
    rw [← List.sum_append_nat, ← List.map_append, ← this]
  omega
def marksSS (m : Int) (g : List (List Int)) : List (List Int) := (List.range g.length).map fun i => marks (m + (tot (g.take i) : Nat)) (g.getD i []).length
theorem marksSS_len (m : Int) (g : List (List Int)) : (marksSS m g).length = g.length := by simp [marksSS]
theorem marksSS_at (m : Int) (g : List (List Int)) (i : Nat) (h : i < g.length) : (marksSS m g)[i]'(by rw [marksSS_len]; exact h) = marks (m + (tot (g.take i) : Nat)) g[i].length := by
  simp [marksSS, List.getD, List.getElem?_eq_getElem h]
theorem marksSS_row (m : Int) (g : List (List Int)) (i : Nat) (h : i < g.length) : (g[i]).length = ((marksSS m g)[i]'(by rw [marksSS_len]; exact h)).length := by
  rw [marksSS_at m g i h, marks_length]

/-- What holds in markInt64SS's round j. -/
def MG (w wr : World) (lo hi : Nat) (v : Value) (us : List Value) (g : List (List Int)) (m : Int) (j : Nat) : Prop :=
  wr.ownsRow lo 22 1 v us.length us ∧ (∀ i (h : i < g.length) (h' : i < us.length), Own wr lo us[i] (if i < j then (marksSS m g)[i]'(by rw [marksSS_len]; exact h) else g[i])) ∧ ChgG lo hi w wr
theorem MG.next {w wr w' : World} {lo hi : Nat} {v : Value} {us : List Value} {g : List (List Int)} {m : Int} {j : Nat} (h : MG w wr lo hi v us g m j) (hap : us.Pairwise apart2) (htops : ∀ u ∈ us, ∀ k, u.ownBlock = some k → k < hi)
    (hj : j < g.length) (hj' : j < us.length) (hm : Own w' lo us[j] (marks (m + (tot (g.take j) : Nat)) g[j].length)) (hg : wr.grownBy w' us[j].ownBlock) (hz : w'.heap.size = wr.heap.size) : MG w w' lo hi v us g m (j + 1) := by
  obtain ⟨h1, h2, h3⟩ := h
  have hoj := h2 j hj hj'
  have hc : ChgG lo hi wr w' := ChgG.of hg hz (fun k hk => ⟨(World.ownsRow.lt hoj k hk).1, htops _ (List.getElem_mem hj') k hk⟩)
  refine ⟨h1.kept hg (own_ne h1 hoj), fun i hi hi' => ?_, h3.trans hc⟩
  by_cases e : i = j
  · subst e
    rw [if_pos (by omega), marksSS_at m g i hi]
    exact hm
  · have ho := h2 i hi hi'
    have hne : us[i].ownBlock = none ∨ us[i].ownBlock ≠ us[j].ownBlock := by
      cases hv : us[i].ownBlock with
      | none => exact .inl rfl
      | some k =>
        refine .inr fun e' => ?_
        rcases Nat.lt_or_ge i j with h' | h'
        · exact (List.pairwise_iff_getElem.1 hap i j hi' hj' h') k hv e'.symm
        · exact (List.pairwise_iff_getElem.1 hap j i hj' hi' (by omega)) k e'.symm hv
    have hk := World.ownsRow.kept ho hg hne
    by_cases h' : i < j
    · rw [if_pos h'] at hk; rw [if_pos (by omega)]; exact hk
    · rw [if_neg h'] at hk; rw [if_neg (by omega)]; exact hk

set_option maxRecDepth 100000 in
theorem markInt64SS_any (w : World) (lo hi : Nat) (v : Value) (us : List Value) (g : List (List Int)) (m : Int) (hm0 : 0 ≤ m) (hm : m ≤ 2000000000) (hg1 : g.length ≤ 2000000) (hg2 : tot g ≤ 2000000) (h : OwnG w lo hi v us g) :
    Calls Try.prog 26 #[v, .int .i64 m] w fun e w' => e = .returned (.int .i64 (m + (tot g : Nat))) ∧ OwnG w' lo hi v us (marksSS m g) ∧ ChgG lo hi w w' := by
  have HO := Lib.hid h
  obtain ⟨A, c, e⟩ := own_shape h.row
  rw [h.len] at e
  have HL := Lib.hid h.len
  have HM : Hid (MG w w lo hi v us g m 0) := ⟨h.row, fun i h1 h2 => by rw [if_neg (by omega)]; exact h.each i h1 h2, ChgG.refl _ _ _⟩
  have HX : Hid (0 < g.length → ∃ b, A = some ⟨b, 0, none⟩) := by
    show _ → _
    intro h0
    obtain ⟨g', c', e', -⟩ := own_some h.row (by rw [h.len]; exact h0)
    rw [e] at e'
    injection e' with e' _ _
    exact ⟨g', e'⟩
  have HT := Lib.hid (tot_le g)
  have HTF : Hid (tot (g.take g.length) = tot g) := by show _ = _; rw [List.take_length]
  clear h
  generalize hn : g.length = n at *
  have HN := Lib.hid hn
  clear hn
  subst e
  go_enter Try.func26, Try.ntmps26
  go_wp2_with fail
  go_loopw [1, 5] (fun kk i wr => ∃ j : Nat, j ≤ n ∧ i = .int .i64 j ∧ kk = .int .i64 (m + (tot (g.take j) : Nat)) ∧ Hid (MG w wr lo hi (.slice A n c) us g m j)) (fun _ i _ => n - (intOf i).toNat)
  case atStart => exact ⟨0, Nat.zero_le _, rfl, by simp [tot], HM⟩
  case round =>
    obtain ⟨j, hj, rfl, rfl, HMj⟩ := hrel
    by_cases hlt : j < n
    · have hjg : j < g.length := by have := HN.out; omega
      have hju : j < us.length := by have := HL.out; have := HN.out; omega
      obtain ⟨b, rfl⟩ := HX.out (by omega)
      have hrow := HMj.out.1
      rw [show us.length = n from by have := HL.out; omega] at hrow
      have hc0 := hrow.cellAt j (by omega)
      rw [List.getElem?_eq_getElem hju] at hc0
      have hoj := HMj.out.2.1 j hjg hju
      rw [if_neg (by omega)] at hoj
      have HJ := Lib.hid hoj
      have HS : Hid (tot (g.take (j + 1)) = tot (g.take j) + g[j].length) := tot_snoc g j hjg
      have HT1 := HT.out (j + 1)
      rw [HS.out] at HT1
      have hk0 : (0 : Int) ≤ (j : Int) := by omega
      have hk1 : (j : Int) < (n : Int) := by omega
      have HNX : Hid (∀ w', Own w' lo us[j] (marks (m + (tot (g.take j) : Nat)) g[j].length) → _ → _ → MG w w' lo hi (.slice (some ⟨b, 0, none⟩) n c) us g m (j + 1)) := fun w' hm hg hz => HMj.out.next HO.out.apart HO.out.tops hjg hju hm hg hz
      clear hoj hrow
      generalize us[j] = u at *
      generalize g[j] = row at *
      go_wp2_with fail
      refine (markInt64S_any _ lo u row (m + (tot (g.take j) : Nat)) (by omega) (by omega) (by omega) HJ.out).mono ?_; rintro e w' ⟨rfl, hm1, hg1', hz1⟩
      have HN1 := Lib.hid (HNX.out w' hm1 hg1' hz1)
      clear hm1 hg1' hz1 hc0
      go_wp2_with fail
      go_roundw
      case rel => exact ⟨j + 1, by omega, by go_num, by rw [HS.out]; simp; omega, HN1⟩
      case measure => simp [intOf]; omega
    · obtain rfl : j = n := by omega
      rw [HTF.out]
      have HR : Hid (OwnG wr lo hi (.slice A j c) us (marksSS m g)) := by
        show OwnG _ _ _ _ _ _
        obtain ⟨q1, q2, q3⟩ := HMj.out
        refine ⟨q1, by rw [marksSS_len, HN.out]; exact HL.out, fun i h h' => ?_, HO.out.apart, HO.out.top, HO.out.tops, by rw [q3.size]; exact HO.out.size⟩
        rw [marksSS_len] at h
        have := q2 i h h'
        rw [if_pos (by have := HN.out; omega)] at this
        exact this
      have HC := Lib.hid HMj.out.2.2
      go_wp2_with fail
      go_ret
      exact ⟨rfl, HR.out, HC.out⟩

set_option maxRecDepth 100000 in
theorem heldInt64SS_any (w : World) (lo hi : Nat) (v : Value) (us : List Value) (g : List (List Int)) (m : Int) (hm0 : 0 ≤ m) (hm : m ≤ 2000000000) (hg1 : g.length ≤ 2000000) (hg2 : tot g ≤ 2000000) (h : OwnG w lo hi v us (marksSS m g)) :
    Calls Try.prog 27 #[v, .int .i64 m] w fun e w' => e = .returned (.int .i64 (m + (tot g : Nat))) ∧ w = w' := by
  have HO := Lib.hid h
  obtain ⟨A, c, e⟩ := own_shape h.row
  have hl := h.len
  rw [marksSS_len] at hl
  rw [hl] at e
  have HL := Lib.hid hl
  have HX : Hid (0 < g.length → ∃ b, A = some ⟨b, 0, none⟩) := by
    show _ → _
    intro h0
    obtain ⟨g', c', e', -⟩ := own_some h.row (by omega)
    rw [e] at e'
    injection e' with e' _ _
    exact ⟨g', e'⟩
  have HT := Lib.hid (tot_le g)
  have HTF : Hid (tot (g.take g.length) = tot g) := by show _ = _; rw [List.take_length]
  clear h hl
  generalize hn : g.length = n at *
  have HN := Lib.hid hn
  clear hn
  subst e
  go_enter Try.func27, Try.ntmps27
  go_wp2_with fail
  go_loop [1, 5] (fun kk i => ∃ j : Nat, j ≤ n ∧ i = .int .i64 j ∧ kk = .int .i64 (m + (tot (g.take j) : Nat))) (fun _ i => n - (intOf i).toNat)
  case atStart => exact ⟨0, Nat.zero_le _, rfl, by simp [tot]⟩
  case round =>
    obtain ⟨j, hj, rfl, rfl⟩ := hrel
    by_cases hlt : j < n
    · have hjg : j < g.length := by have := HN.out; omega
      have hju : j < us.length := by have := HL.out; omega
      obtain ⟨b, rfl⟩ := HX.out (by omega)
      have hrow := HO.out.row
      rw [show us.length = n from HL.out] at hrow
      have hc0 := hrow.cellAt j (by omega)
      rw [List.getElem?_eq_getElem hju] at hc0
      have hoj := HO.out.each j (by rw [marksSS_len]; exact hjg) hju
      rw [marksSS_at m g j hjg] at hoj
      have HJ := Lib.hid hoj
      have HS : Hid (tot (g.take (j + 1)) = tot (g.take j) + g[j].length) := tot_snoc g j hjg
      have HT1 := HT.out (j + 1)
      rw [HS.out] at HT1
      have hk0 : (0 : Int) ≤ (j : Int) := by omega
      have hk1 : (j : Int) < (n : Int) := by omega
      clear hoj hrow
      generalize us[j] = u at *
      generalize g[j] = row at *
      have hneg : ¬ m + (tot (g.take j) : Nat) + (row.length : Int) < 0 := by omega
      go_wp2_with fail
      refine (heldInt64S_any _ lo u row.length (m + (tot (g.take j) : Nat)) (by omega) (by omega) (by omega) HJ.out).mono ?_; rintro e w' ⟨rfl, rfl⟩
      go_wp2_with fail
      go_round
      case rel => exact ⟨j + 1, by omega, by go_num, by rw [HS.out]; simp; omega⟩
      case measure => simp [intOf]; omega
    · obtain rfl : j = n := by omega
      rw [HTF.out]
      go_wp2_with fail
      go_ret
      exact ⟨rfl, rfl⟩

end Go.Proofs.Ytjhgkkecconcaab
