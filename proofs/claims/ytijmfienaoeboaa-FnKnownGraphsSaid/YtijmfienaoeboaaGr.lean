/- Graphs as slices of slices of numbers that are read; the law's own functions over them. -/
import Derived.Test.YtijmfienaoeboaaRd
import Derived.Deep.Matrix
import Derived.Outline
namespace Go.Proofs.Ytijmfienaoeboaa
open Go Go.RowKit
set_option linter.unusedVariables false

theorem Try.infoRow : (Try.prog.info? 32).map (fun i => (i.zero, i.size, i.bytes)) = some (some (.slice none 0 0), 1, 24) := by kernel_rfl

/-- A slice value reads as lists of numbers. -/
def RdG (w : World) (v : Value) (g : List (List Int)) : Prop :=
  ∃ (A : Option Addr) (n c : Nat), v = .slice A n c ∧ g.length = n ∧ n ≤ c ∧ c ≤ maxLen ∧
    (0 < n → ∃ b o, A = some ⟨b, o, none⟩ ∧ b < w.heap.size ∧ ∀ i (h : i < g.length), ∃ u, w.cell? ⟨b, o + i, none⟩ = some u ∧ Rd w u g[i])
theorem RdG.keep {w w' : World} {v : Value} {g : List (List Int)} (h : RdG w v g) (hb : Below w.heap.size w w') : RdG w' v g := by
  obtain ⟨A, n, c, e, hn, h1, h2, h3⟩ := h
  refine ⟨A, n, c, e, hn, h1, h2, fun h0 => ?_⟩
  obtain ⟨b, o, ea, hlt, hc⟩ := h3 h0
  refine ⟨b, o, ea, Nat.lt_of_lt_of_le hlt hb.size, fun i hi => ?_⟩
  obtain ⟨u, hu, hr⟩ := hc i hi
  exact ⟨u, (hb.cell (p := ⟨b, o + i, none⟩) hlt).trans hu, hr.keep hb⟩
theorem RdG.drewN {w : World} {v : Value} {g : List (List Int)} (h : RdG w v g) (q : Nat) : RdG (w.drewN q) v g := by
  obtain ⟨A, n, c, e, hn, h1, h2, h3⟩ := h
  refine ⟨A, n, c, e, hn, h1, h2, fun h0 => ?_⟩
  obtain ⟨b, o, ea, hlt, hc⟩ := h3 h0
  refine ⟨b, o, ea, by simpa using hlt, fun i hi => ?_⟩
  obtain ⟨u, hu, hr⟩ := hc i hi
  exact ⟨u, by simpa using hu, hr.drewN q⟩
theorem RdG.len {w : World} {v : Value} {g : List (List Int)} (h : RdG w v g) : g.length ≤ maxLen := by
  obtain ⟨A, n, c, e, hn, h1, h2, h3⟩ := h
  omega

/-- An argument. -/
theorem rdg_open {H : Type} {enc : TypeId × Value → H} {W : World} {fuel : Nat} {v : Value} {x : DataW H × List MemPlace} (h : DataW.trod enc Try.prog W 0 (fun _ => true) true fuel 58 [v] = some x) :
    ∃ g, RdG W v g ∧ ∀ l ∈ g, ∀ n ∈ l, (Lit.int .i64 n).wf = true := by
  rcases Go.Deep.open_int_rows Try.underlying58 Try.underlying32 Try.underlying2 (by kernel_rfl) (by kernel_rfl) h with ⟨hcs, hx⟩ | ⟨a, len, cap, A, L, C, Z, hcs, hb, hl, hm, hx, hr⟩
  · simp at hcs
    exact ⟨[], ⟨none, 0, 0, hcs, rfl, Nat.le_refl _, Nat.zero_le _, fun h => by omega⟩, fun n hn => by simp at hn⟩
  · simp at hcs
    refine ⟨(List.range len).map fun r => (Z r).take (L r), ⟨_, _, _, hcs, by simp, hl, hm, fun h0 => ?_⟩, ?_⟩
    · obtain ⟨b, off, spot⟩ := a
      have c0 := (hr 0 (by omega)).1
      have hspot : spot = none := by simpa [Addr.add] using World.cell?_spot c0
      subst hspot
      have hadd : ∀ i, (⟨b, off, none⟩ : Addr).add i = ⟨b, off + i, none⟩ := fun i => by unfold Addr.add; split <;> simp_all
      refine ⟨b, off, rfl, ?_, fun i hi => ?_⟩
      · rw [hadd] at c0
        exact World.block_lt_of_cell? _ _ c0
      · rw [List.length_map, List.length_range] at hi
        obtain ⟨e1, r1, r2, r3, r4, r5, r6⟩ := hr i (by omega)
        rw [hadd] at e1
        refine ⟨_, e1, ?_⟩
        rw [List.getElem_map, List.getElem_range]
        refine ⟨_, _, _, rfl, by rw [List.length_take]; omega, r1, r2, fun h0 => ?_⟩
        cases hA : A i with
        | none => have := r5 hA; omega
        | some a' =>
          obtain ⟨h7, h8⟩ := r6 a' hA
          obtain ⟨b', off', spot'⟩ := a'
          have c1 := h8 0 (by omega)
          have hspot' : spot' = none := by simpa [Addr.add] using World.cell?_spot c1
          subst hspot'
          have hadd' : ∀ i, (⟨b', off', none⟩ : Addr).add i = ⟨b', off' + i, none⟩ := fun i => by unfold Addr.add; split <;> simp_all
          refine ⟨b', off', rfl, ?_, fun j hj => ?_⟩
          · rw [hadd'] at c1
            exact World.block_lt_of_cell? _ _ c1
          · rw [List.length_take] at hj
            rw [← hadd', h8 j (by omega)]
            simp [List.getD, List.getElem?_eq_getElem (show j < (Z i).length by omega)]
    · intro l hl' n hn
      obtain ⟨r, hr', rfl⟩ := List.mem_map.1 hl'
      exact (hr r (by have := List.mem_range.1 hr'; omega)).2.2.2.2.1 n (List.mem_of_mem_take hn)

/-! The law's count of what a graph holds. -/
def szRows : Int → List (List Int) → Int
  | left, [] => left
  | left, r :: rs => if left - r.length < 0 then -1 else szRows (left - r.length) rs
def szG (g : List (List Int)) : Int := if (1048576 : Int) - g.length < 0 then -1 else szRows (1048576 - g.length) g
theorem szRows_neg : ∀ (rs : List (List Int)) (left : Int), 0 ≤ left → szRows left rs < 0 → szRows left rs = -1
  | [], left, h, h1 => by rw [szRows] at h1; omega
  | r :: rs, left, h, h1 => by
    rw [szRows] at h1 ⊢
    split
    · rfl
    · rename_i h2
      rw [if_neg h2] at h1
      exact szRows_neg rs _ (by omega) h1
theorem szRows_ok : ∀ (rs : List (List Int)) (left : Int), 0 ≤ szRows left rs → ∀ r ∈ rs, (r.length : Int) ≤ left
  | [], left, h, r, hr => by simp at hr
  | x :: rs, left, h, r, hr => by
    rw [szRows] at h
    split at h
    · omega
    · rcases List.mem_cons.1 hr with rfl | h'
      · omega
      · have := szRows_ok rs _ h r h'
        omega
theorem szG_ok (g : List (List Int)) (h : 0 ≤ szG g) : g.length ≤ 1048576 ∧ ∀ r ∈ g, r.length ≤ 1048576 := by
  unfold szG at h
  split at h
  · omega
  · refine ⟨by omega, fun r hr => ?_⟩
    have := szRows_ok g _ h r hr
    omega

theorem szG_neg (g : List (List Int)) (h : szG g < 0) : szG g = -1 := by
  unfold szG at h ⊢
  split
  · rfl
  · rename_i h2
    rw [if_neg h2] at h
    exact szRows_neg g _ (by omega) h

/-- A row of rows of the call's own: its cells, each of which reads as its numbers, from another block on. -/
def OwnSS (w : World) (base : Nat) (v : Value) (us : List Value) (g : List (List Int)) : Prop :=
  w.ownsRow base 32 1 v us.length us ∧ us.length = g.length ∧ (∀ k, v.ownBlock = some k → k = base) ∧ ∀ i (h : i < g.length) (h' : i < us.length), Own w (base + 1) us[i] g[i]
theorem OwnSS.rdg {w : World} {base : Nat} {v : Value} {us : List Value} {g : List (List Int)} (h : OwnSS w base v us g) : RdG w v g := by
  obtain ⟨hown, hl, -, hin⟩ := h
  have hlen := own_len hown
  rcases hown.2 with ⟨rfl, h0⟩ | ⟨b, cap, cur, rfl, h1, hg, h2, h3, h4, h5⟩
  · exact ⟨none, 0, 0, rfl, by omega, Nat.le_refl _, Nat.zero_le _, fun h => by omega⟩
  · refine ⟨_, _, _, rfl, by omega, h2, h3, fun h0 => ⟨b, 0, rfl, ?_, fun i hi => ⟨us[i]'(by omega), ?_, (hin i hi (by omega)).rd⟩⟩⟩
    · rcases Nat.lt_or_ge b w.heap.size with h' | h'
      · exact h'
      · rw [Array.getElem?_eq_none h'] at hg; cases hg
    · have := (World.ownsRow.cellAt (w := w) (base := base) hown i (by omega))
      rw [List.getElem?_eq_getElem (by omega)] at this
      rw [Nat.zero_add]; exact this

def nilV : Value := .slice none 0 0
theorem nil_set (us : List Value) (n j : Nat) (x : Value) (hus : us.length = j) (hj : j < n) : (us ++ List.replicate (n - j) nilV).set j x = (us ++ [x]) ++ List.replicate (n - (j + 1)) nilV := by
  rw [List.set_append, if_neg (by omega), hus, Nat.sub_self]
  obtain ⟨m, hm⟩ : ∃ m, n - j = m + 1 := ⟨n - j - 1, by omega⟩
  rw [hm, show n - (j + 1) = m from by omega, List.replicate_succ]
  simp
theorem ins_next {w5 : World} {B : Nat} {us : List Value} {x : Value} {g : List (List Int)} {j : Nat} (hus : us.length = j) (hj : j < g.length) (hin : ∀ y (h : y < g.length) (h' : y < us.length), Own w5 (B + 1) us[y] g[y]) (hx : Own w5 (B + 1) x g[j]) (o : Nat) (v : Value) :
    ∀ y (h : y < g.length) (h' : y < (us ++ [x]).length), Own (w5.setCell ⟨B, o, none⟩ v) (B + 1) (us ++ [x])[y] g[y] := by
  intro y h h'
  refine ownsRow_setCell_below ?_ (by simp) _
  by_cases hy : y < us.length
  · rw [List.getElem_append_left hy]; exact hin y h hy
  · have : y = j := by simp at h'; omega
    subst this
    rw [List.getElem_append_right (by omega)]
    simpa [Own, hus] using hx

theorem rdg_shape {w : World} {v : Value} {g : List (List Int)} (h : RdG w v g) : ∃ A c, v = .slice A g.length c := by
  obtain ⟨A, n, c, e, hn, -⟩ := h
  exact ⟨A, c, by rw [e, hn]⟩

theorem OwnSS.set {w : World} {base : Nat} {v : Value} {us : List Value} {g : List (List Int)} (h : OwnSS w base v us g) {a : Addr} (ha : a.block < base) (x : Value) : OwnSS (w.setCell a x) base v us g :=
  ⟨ownsRow_setCell_below h.1 ha x, h.2.1, h.2.2.1, fun i hi hi' => ownsRow_setCell_below (h.2.2.2 i hi hi') (by omega) x⟩
theorem rdg_sh {w : World} {v : Value} {g : List (List Int)} (h : RdG w v g) : ∃ A n c, v = .slice A n c := by
  obtain ⟨A, n, c, e, -⟩ := h
  exact ⟨A, n, c, e⟩
/-- A block of one cell. -/
def OneC (W : World) (b : Nat) (x : Value) : Prop := W.cell? ⟨b, 0, none⟩ = some x ∧ W.frozen? ⟨b, 0, none⟩ = false ∧ b < W.heap.size
theorem OneC.new (w : World) (x : Value) (t : TypeId) : OneC (w.alloc (.cells #[x] t)) w.heap.size x :=
  ⟨World.cell?_alloc_at _ _ _ _ rfl, World.frozen?_alloc_at _ _ _ _ rfl, by simp⟩
theorem OneC.keep {W W' : World} {b : Nat} {x : Value} (h : OneC W b x) (hb : Below W.heap.size W W') : OneC W' b x :=
  ⟨(hb.cell (p := ⟨b, 0, none⟩) h.2.2).trans h.1, (hb.frozen (p := ⟨b, 0, none⟩) h.2.2).trans h.2.1, Nat.lt_of_lt_of_le h.2.2 hb.size⟩
theorem OneC.alloc {W : World} {b : Nat} {x : Value} (h : OneC W b x) (o : Obj) : OneC (W.alloc o) b x := h.keep ((Below.refl _ _).alloc (Nat.le_refl _) o)

end Go.Proofs.Ytijmfienaoeboaa
