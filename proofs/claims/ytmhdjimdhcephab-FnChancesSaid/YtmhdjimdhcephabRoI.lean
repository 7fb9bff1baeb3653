/- Rows of numbers of a call's own that are stored into; both copies of a row. -/
import Derived.Test.YtmhdjimdhcephabRd
import Derived.Lib.LazyBuf
namespace Go.Proofs.Ytmhdjimdhcephab
open Go Go.RowKit
set_option linter.unusedVariables false

/-- A row at a block. -/
def RowI (w : World) (base g n c : Nat) (L : List Int) : Prop := L.length = n ∧ Own w base (.slice (some ⟨g, 0, none⟩) n c) L ∧ base ≤ g ∧ g < w.heap.size
theorem RowI.of {w : World} {base : Nat} {v : Value} {L : List Int} (h : Own w base v L) (h0 : 0 < L.length) : ∃ g c, v = .slice (some ⟨g, 0, none⟩) L.length c ∧ RowI w base g L.length c L := by
  obtain ⟨g, c, rfl, h1, h2, h3, h4⟩ := own_some h h0
  exact ⟨g, c, rfl, rfl, h, h1, h2⟩
theorem RowI.own {w : World} {base g n c : Nat} {L : List Int} (h : RowI w base g n c L) : Own w base (.slice (some ⟨g, 0, none⟩) n c) L := h.2.1
theorem RowI.rd {w : World} {base g n c : Nat} {L : List Int} (h : RowI w base g n c L) : Rd w (.slice (some ⟨g, 0, none⟩) n c) L := h.2.1.rd
theorem RowI.at {w : World} {base g n c : Nat} {L : List Int} (h : RowI w base g n c L) (k : Nat) (hk : k < L.length) : w.cell? ⟨g, k, none⟩ = some (.int .i64 L[k]) := by
  obtain ⟨rfl, ho, -, -⟩ := h
  have := World.ownsRow.cellAt ho k (by omega)
  rw [this, intVals_at L k hk]
theorem RowI.fz {w : World} {base g n c : Nat} {L : List Int} (h : RowI w base g n c L) (k : Nat) : w.frozen? ⟨g, k, none⟩ = false := by
  obtain ⟨rfl, ho, -, -⟩ := h
  exact World.ownsRow.frozenAt ho k
theorem RowI.set {w : World} {base g n c : Nat} {L : List Int} (h : RowI w base g n c L) (k : Nat) (x : Int) : RowI (w.setCell ⟨g, k, none⟩ (.int .i64 x)) base g n c (L.set k x) := by
  obtain ⟨rfl, ho, h1, h2⟩ := h
  refine ⟨by simp, ?_, h1, by simpa [World.setCell] using h2⟩
  have := (World.ownsRow.stored ho k (.int .i64 x)).1
  unfold Own
  rw [List.length_set]
  have e : intVals (L.set k x) = (intVals L).set k (.int .i64 x) := by simp [intVals, List.map_set]
  rw [e]; exact this
theorem RowI.far {w : World} {base g n c : Nat} {L : List Int} (h : RowI w base g n c L) {base2 g2 n2 c2 : Nat} {L2 : List Int} (h2 : RowI w base2 g2 n2 c2 L2) (hne : g ≠ g2) (k : Nat) (x : Int) : RowI (w.setCell ⟨g2, k, none⟩ (.int .i64 x)) base g n c L := by
  obtain ⟨e, ho, h1, hs⟩ := h
  obtain ⟨rfl, ho2, -, -⟩ := h2
  exact ⟨e, World.ownsRow.kept ho (World.ownsRow.stored ho2 k (.int .i64 x)).2 (.inr (by simp [Value.ownBlock]; exact hne)), h1, by simpa [World.setCell] using hs⟩
theorem RowI.keep {w w' : World} {base g n c : Nat} {L : List Int} (h : RowI w base g n c L) (hb : Below w.heap.size w w') : RowI w' base g n c L := ⟨h.1, h.2.1.keep hb, h.2.2.1, Nat.lt_of_lt_of_le h.2.2.2 hb.size⟩
theorem RowI.drewN {w : World} {base g n c : Nat} {L : List Int} (h : RowI w base g n c L) (q : Nat) : RowI (w.drewN q) base g n c L := h.keep (below_drewN (Below.refl _ _) q)
theorem RowI.made (W : World) (base n : Nat) (hn : n ≤ 1000) (hb : base ≤ W.heap.size) : RowI (W.alloc (.cells (List.replicate n (Value.int .i64 0)).toArray 2)) base W.heap.size n n (List.replicate n 0) := by
  refine ⟨by simp, ?_, hb, by simp⟩
  have := World.ownsRow_lit (base := base) (e := 2) (size := 1) W (List.replicate n (Value.int .i64 0)).toArray n hb (by unfold maxLen; omega) (by simp)
  unfold Own
  simpa [intVals] using this
theorem rd_posR {w : World} {v : Value} {l : List Int} (h : Rd w v l) (h0 : 0 < l.length) : ∃ b o c, v = .slice (some ⟨b, o, none⟩) l.length c ∧ b < w.heap.size ∧ ∀ i (hi : i < l.length), w.cell? ⟨b, o + i, none⟩ = some (.int .i64 l[i]) := by
  obtain ⟨A, n, c, rfl, hn, h1, h2, h3⟩ := h
  obtain ⟨b, o, rfl, hlt, hc⟩ := h3 (by omega)
  exact ⟨b, o, c, by rw [hn], hlt, hc⟩
theorem src_cells {w : World} {b o : Nat} {l : List Int} (hlt : b < w.heap.size) (hc : ∀ i (hi : i < l.length), w.cell? ⟨b, o + i, none⟩ = some (.int .i64 l[i])) : ∀ W, Below w.heap.size w W → ∀ (j : Nat) (u : Value), (intVals l)[j]? = some u → W.cell? ((⟨b, o, none⟩ : Addr).add j) = some u := by
  intro W hb j u hj
  have hjl : j < l.length := by
    have := (List.getElem?_eq_some_iff.1 hj).1
    rw [intVals_length] at this; exact this
  rw [intVals_at l j hjl] at hj
  have e : (⟨b, o, none⟩ : Addr).add j = ⟨b, o + j, none⟩ := by unfold Addr.add; split <;> simp_all
  rw [e, ← hj]
  exact (hb.cell (p := ⟨b, o + j, none⟩) hlt).trans (hc j hjl)
theorem one_cells (l : List Int) : ∀ u ∈ intVals l, u.oneCell' = true := by
  intro u hu
  obtain ⟨y, -, rfl⟩ := List.mem_map.1 hu
  rfl
theorem own_ofR {w : World} {base : Nat} {v : Value} {l : List Int} {n : Nat} {xs : List Value} (h : w.ownsRow base 2 1 v n xs) (h1 : n = l.length) (h2 : xs = intVals l) : Own w base v l := by subst h1; subst h2; exact h
set_option maxRecDepth 100000 in
theorem ownP_any (w : World) (v : Value) (l : List Int) (h : Rd w v l) (h0 : 0 < l.length) (hlen : l.length ≤ 100000) :
    Calls Try.prog 118 #[v] w fun e w' => ∃ u, e = .returned u ∧ Own w' w.heap.size u l ∧ Below w.heap.size w w' := by
  obtain ⟨i0, hi, hz0, hz1, hz2⟩ := info_parts Try.infoInt
  have KL := Lib.hid ((Below.refl w.heap.size w).alloc (Nat.le_refl _) (.cells #[] 2))
  obtain ⟨b, o, c, rfl, hlt, hc⟩ := rd_posR h h0
  have HLIT : Hid ((w.alloc (.cells #[] 2)).ownsRow w.heap.size 2 1 (.slice (some ⟨w.heap.size, 0, none⟩) 0 0) 0 []) := World.ownsRow_made w #[] 0 (Nat.le_refl _) (by decide) rfl
  have HSRC := Lib.hid (src_cells hlt hc _ KL.out)
  have H1C := Lib.hid (one_cells l)
  have HIL := Lib.hid (intVals_length l)
  clear h hc
  go_enter Try.func118, Try.ntmps118
  go_wp2_with (at_builtin; refine wpList_append_own _ rfl _ _ 39 rfl w.heap.size 2 i0 (.int .i64 0) 1 8 Try.underlying39 hi hz0 hz1 hz2 rfl (by decide) _ _ _ rfl HLIT.out ⟨b, o, none⟩ l.length c (intVals l) rfl (by rw [HIL.out, Nat.mul_one]) HSRC.out H1C.out (by unfold maxLen; omega) (by omega) (by simp) ?_)
  intro v1 w1 hown1 hgrow1 _
  have HB : Hid (Below w.heap.size w w1) := KL.out.grown hgrow1 (by simp) (fun j hj => by simp [Value.ownBlock] at hj; omega)
  have HO : Hid (Own w1 w.heap.size v1 l) := by
    show Own _ _ _ _
    exact own_ofR hown1 (by first | rfl | simp) (by first | rfl | simp)
  clear hown1 hgrow1
  go_wp2_with fail
  go_ret
  exact ⟨_, rfl, HO.out, HB.out⟩
end Go.Proofs.Ytmhdjimdhcephab
