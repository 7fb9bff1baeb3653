/- Slices of numbers that are read: arguments and rows of the call's own; the law's own copy and comparison of them. -/
import Derived.Test.YtddlpbpcdjddpaaInts
import Derived.ChangeSlices
namespace Go.Proofs.Ytddlpbpcdjddpaa
open Go Go.RowKit
set_option linter.unusedVariables false

/-- A slice value reads as numbers. -/
def Rd (w : World) (v : Value) (l : List Int) : Prop :=
  ∃ (A : Option Addr) (n c : Nat), v = .slice A n c ∧ l.length = n ∧ n ≤ c ∧ c ≤ maxLen ∧
    (0 < n → ∃ b o, A = some ⟨b, o, none⟩ ∧ b < w.heap.size ∧ ∀ i (h : i < l.length), w.cell? ⟨b, o + i, none⟩ = some (.int .i64 l[i]))
theorem Rd.keep {w w' : World} {v : Value} {l : List Int} (h : Rd w v l) (hb : Below w.heap.size w w') : Rd w' v l := by
  obtain ⟨A, n, c, e, hn, h1, h2, h3⟩ := h
  refine ⟨A, n, c, e, hn, h1, h2, fun h0 => ?_⟩
  obtain ⟨b, o, ea, hlt, hc⟩ := h3 h0
  exact ⟨b, o, ea, Nat.lt_of_lt_of_le hlt hb.size, fun i hi => (hb.cell (p := ⟨b, o + i, none⟩) hlt).trans (hc i hi)⟩
theorem Rd.drewN {w : World} {v : Value} {l : List Int} (h : Rd w v l) (q : Nat) : Rd (w.drewN q) v l := by
  obtain ⟨A, n, c, e, hn, h1, h2, h3⟩ := h
  refine ⟨A, n, c, e, hn, h1, h2, fun h0 => ?_⟩
  obtain ⟨b, o, ea, hlt, hc⟩ := h3 h0
  exact ⟨b, o, ea, by simpa using hlt, fun i hi => by simpa using hc i hi⟩
theorem Rd.len {w : World} {v : Value} {l : List Int} (h : Rd w v l) : l.length ≤ maxLen := by
  obtain ⟨A, n, c, e, hn, h1, h2, h3⟩ := h
  omega
/-- A row of the call's own is one. -/
theorem Own.rd {w : World} {base : Nat} {v : Value} {l : List Int} (h : Own w base v l) : Rd w v l := by
  have hl := own_len h
  rcases h.2 with ⟨rfl, h0⟩ | ⟨g, cap, cur, rfl, h1, hg, h2, h3, h4, h5⟩
  · exact ⟨none, 0, 0, rfl, h0, Nat.le_refl _, Nat.zero_le _, fun h => by omega⟩
  · refine ⟨_, _, _, rfl, rfl, h2, h3, fun _ => ⟨g, 0, rfl, ?_, fun i hi => ?_⟩⟩
    · rcases Nat.lt_or_ge g w.heap.size with h' | h'
      · exact h'
      · rw [Array.getElem?_eq_none h'] at hg; cases hg
    · have := (World.ownsRow.cellAt (w := w) (base := base) h i (by omega)).trans (intVals_at l i hi)
      rw [Nat.zero_add]; exact this
/-- Own rows grow from a lesser base as well. -/
theorem Own.base {w : World} {base base' : Nat} {v : Value} {l : List Int} (h : Own w base v l) (hle : base' ≤ base) : Own w base' v l := by
  refine ⟨h.1, ?_⟩
  rcases h.2 with h' | ⟨g, cap, cur, h1, h2, h3⟩
  · exact .inl h'
  · exact .inr ⟨g, cap, cur, h1, by omega, h3⟩
theorem Own.keep {w w' : World} {base : Nat} {v : Value} {l : List Int} (h : Own w base v l) (hb : Below w.heap.size w w') : Own w' base v l := own_below h hb

/-- An argument. -/
theorem rd_open {H : Type} {enc : TypeId × Value → H} {W : World} {fuel : Nat} {v : Value} {x : DataW H × List MemPlace} {s : Nat → Bool} (h : DataW.trod enc Try.prog W 0 s true fuel 22 [v] = some x) :
    ∃ l, Rd W v l ∧ ∀ n ∈ l, (Lit.int .i64 n).wf = true := by
  rcases Go.ChangeShapes.open_ints Try.underlying22 Try.underlying2 (by kernel_rfl) h with ⟨hcs, hx⟩ | ⟨a, len, cap, zs, hcs, hb, hl, hm, hz, hx, hcell, hwz⟩
  · simp at hcs
    exact ⟨[], ⟨none, 0, 0, hcs, rfl, Nat.le_refl _, Nat.zero_le _, fun h => by omega⟩, fun n hn => by simp at hn⟩
  · simp at hcs
    have hzl : len ≤ zs.length := by rw [hz]; split <;> omega
    refine ⟨zs.take len, ⟨_, _, _, hcs, by rw [List.length_take]; omega, hl, hm, fun h0 => ?_⟩, fun n hn => hwz n (List.mem_of_mem_take hn)⟩
    obtain ⟨b, off, spot⟩ := a
    have c0 := hcell 0 (by omega)
    have hspot : spot = none := by simpa [Addr.add] using World.cell?_spot c0
    subst hspot
    have hadd : ∀ i, (⟨b, off, none⟩ : Addr).add i = ⟨b, off + i, none⟩ := fun i => by unfold Addr.add; split <;> simp_all
    refine ⟨b, off, rfl, ?_, fun i hi => ?_⟩
    · rw [hadd] at c0
      exact World.block_lt_of_cell? _ _ c0
    · rw [List.length_take] at hi
      rw [← hadd, hcell i (by omega)]
      simp [List.getD, List.getElem?_eq_getElem (show i < zs.length by omega)]

set_option maxRecDepth 100000 in
/-- eqInt64S over two slices that read as the same numbers. -/
theorem eqInt64S_rd (w : World) (v1 v2 : Value) (l : List Int) (h1 : Rd w v1 l) (h2 : Rd w v2 l) :
    Calls Try.prog 24 #[v1, v2] w fun e w' => e = .returned (.bool true) ∧ ∃ q, w' = w.drewN q := by
  have hlen := h1.len
  obtain ⟨A1, n, c1, rfl, hn, -, -, r1⟩ := h1
  obtain ⟨A2, n2, c2, rfl, hn2, -, -, r2⟩ := h2
  obtain rfl : n = n2 := by omega
  have hne : ((n : Int) != (n : Int)) = false := by simp
  have hnl : n ≤ 9223372036854775807 := by unfold maxLen at hlen; omega
  clear hlen
  by_cases h0 : n = 0
  · subst h0
    clear r1 r2
    go_enter Try.func24, Try.ntmps24
    go_wp2
    refine wp_loop_rounds 1 ?_
    rw [rounds_succ]
    go_wp2
    go_ret
    exact ⟨rfl, 0, rfl⟩
  · obtain ⟨b1, o1, rfl, -, k1⟩ := r1 (by omega)
    obtain ⟨b2, o2, rfl, -, k2⟩ := r2 (by omega)
    have K1 := Lib.hid k1
    have K2 := Lib.hid k2
    have HN := Lib.hid hn
    clear r1 r2 k1 k2 hn hn2 h0
    go_enter Try.func24, Try.ntmps24
    go_wp2
    go_loopw [5] (fun i wr => ∃ k q : Nat, k ≤ n ∧ i = .int .i64 k ∧ wr = w.drewN q) (fun i _ => n - (intOf i).toNat)
    case atStart => exact ⟨0, 0, Nat.zero_le _, rfl, rfl⟩
    case round =>
      obtain ⟨k, q, hk, rfl, rfl⟩ := hrel
      by_cases hlt : k < n
      · have hk0 : (0 : Int) ≤ (k : Int) := by omega
        have hk1 : (k : Int) < (n : Int) := by omega
        have hc1 := K1.out k (by have := HN.out; omega)
        have hc2 := K2.out k (by have := HN.out; omega)
        generalize l[k]'(by have := HN.out; omega) = x at hc1 hc2
        go_wp2
        go_quiet (fail)
        go_wp2
        go_roundw
        case rel => exact ⟨k + 1, _, by omega, by go_num, rfl⟩
        case measure => simp [intOf]; omega
      · go_wp2
        go_ret
        exact ⟨rfl, _, rfl⟩

def cpart (l : List Int) (n k : Nat) : List Value := intVals (l.take k) ++ List.replicate (n - k) (Value.int .i64 0)
theorem cpart_zero (l : List Int) (n : Nat) : cpart l n 0 = List.replicate n (Value.int .i64 0) := by simp [cpart, intVals]
theorem cpart_full (l : List Int) (n : Nat) (h : l.length = n) : cpart l n n = intVals l := by simp [cpart, ← h]
theorem cpart_length (l : List Int) (n k : Nat) (h : l.length = n) (hk : k ≤ n) : (cpart l n k).length = n := by simp [cpart, intVals]; omega
theorem cpart_set (l : List Int) (n k : Nat) (hl : l.length = n) (hk : k < n) : (cpart l n k).set k (.int .i64 (l[k]'(by omega))) = cpart l n (k + 1) := by
  unfold cpart
  have e : (intVals (l.take k)).length = k := by simp [intVals]; omega
  rw [List.set_append, if_neg (by omega), e, Nat.sub_self, List.take_succ_eq_append_getElem (by omega), ← intVals_snoc]
  obtain ⟨m, hm⟩ : ∃ m, n - k = m + 1 := ⟨n - k - 1, by omega⟩
  rw [hm, show n - (k + 1) = m from by omega, List.replicate_succ]
  simp

set_option maxRecDepth 100000 in
/-- The law's own copy of a slice. -/
theorem toInt64S_any (w : World) (v : Value) (l : List Int) (h : Rd w v l) (hl : l.length ≤ 4000000) :
    Calls Try.prog 22 #[v] w fun e w' => ∃ u, e = .returned u ∧ Own w' w.heap.size u l ∧ Below w.heap.size w w' := by
  obtain ⟨i0, hi, hz0, hz1, hz2⟩ := info_parts Try.infoInt
  obtain ⟨A, n, c, rfl, hn, -, -, r⟩ := h
  rw [hn] at hl
  have HN := Lib.hid hn
  clear hn
  by_cases h0 : n = 0
  · have HZ := Lib.hid h0
    clear r h0
    go_enter Try.func22, Try.ntmps22
    go_wp2_with (at_make; refine wpList_make_full _ rfl _ _ 22 rfl w.heap.size 2 i0 (.int .i64 0) 1 Try.underlying22 hi hz0 hz1 _ _ _ _ n rfl rfl rfl rfl ?b2 ?b3 (Nat.le_refl _) ?_)
    case b2 => rw [hz2]; omega
    case b3 => unfold maxLen; omega
    intro w1 hown hgrow
    have hb1 : Below w.heap.size w w1 := (Below.refl _ _).grown hgrow (Nat.le_refl _) (by simp)
    rw [toList_madeCells_one] at hown
    clear hgrow
    have hO : Own w1 w.heap.size (.slice (some ⟨w.heap.size, 0, none⟩) n n) l := by
      unfold Own
      rw [HN.out, List.length_eq_zero_iff.1 (HN.out.trans HZ.out)]
      have := HZ.out
      subst this
      simpa [intVals] using hown
    have HO := Lib.hid hO
    clear hO hown
    obtain rfl : n = 0 := HZ.out
    go_wp2_with fail
    refine wp_loop_rounds 1 ?_
    rw [rounds_succ]
    go_wp2
    go_ret
    exact ⟨_, rfl, HO.out, hb1⟩
  · obtain ⟨b, o, rfl, hlt0, k0⟩ := r (by omega)
    have K := Lib.hid k0
    clear r k0 h0
    go_enter Try.func22, Try.ntmps22
    go_wp2_with (at_make; refine wpList_make_full _ rfl _ _ 22 rfl w.heap.size 2 i0 (.int .i64 0) 1 Try.underlying22 hi hz0 hz1 _ _ _ _ n rfl rfl rfl rfl ?b2 ?b3 (Nat.le_refl _) ?_)
    case b2 => rw [hz2]; omega
    case b3 => unfold maxLen; omega
    intro w1 hown hgrow
    have hb1 : Below w.heap.size w w1 := (Below.refl _ _).grown hgrow (Nat.le_refl _) (by simp)
    rw [toList_madeCells_one, ← cpart_zero l n] at hown
    clear hgrow
    go_wp2_with fail
    go_loopw [4] (fun i wr => ∃ j : Nat, j ≤ n ∧ i = .int .i64 j ∧ wr.ownsRow w.heap.size 2 1 (.slice (some ⟨w.heap.size, 0, none⟩) n n) n (cpart l n j) ∧ Below w.heap.size w wr) (fun i _ => n - (intOf i).toNat)
    case atStart => exact ⟨0, Nat.zero_le _, rfl, hown, hb1⟩
    case round =>
      obtain ⟨j, hj, rfl, hown1, hb⟩ := hrel
      clear hown hb1
      by_cases hlt : j < n
      · have hk0 : (0 : Int) ≤ (j : Int) := by omega
        have hk1 : (j : Int) < (n : Int) := by omega
        have hc0 := (hb.cell (p := ⟨b, o + j, none⟩) hlt0).trans (K.out j (by have := HN.out; omega))
        have hfr := hown1.frozenAt j
        have hcl := hown1.cellAt j (by omega)
        obtain ⟨u, hu⟩ : ∃ u, (cpart l n j)[j]? = some u := ⟨_, List.getElem?_eq_getElem (by rw [cpart_length _ _ _ HN.out (by omega)]; omega)⟩
        rw [hu] at hcl
        have hst := (hown1.stored j (.int .i64 (l[j]'(by have := HN.out; omega)))).1
        rw [cpart_set l n j HN.out hlt] at hst
        have HST := Lib.hid hst
        have HB := Lib.hid (hb.setCell (p := ⟨w.heap.size, j, none⟩) (Nat.le_refl _) (.int .i64 (l[j]'(by have := HN.out; omega))))
        clear hst hu hown1 hb
        generalize l[j]'(by have := HN.out; omega) = x at *
        go_wp2_with fail
        first | go_roundw | (go_region; go_wp2_with fail; go_roundw)
        case rel => exact ⟨j + 1, by omega, by go_num, HST.out, HB.out⟩
        case measure => simp [intOf]; omega
      · obtain rfl : j = n := by omega
        rw [cpart_full _ _ HN.out] at hown1
        have HO : Hid (Own wr w.heap.size (.slice (some ⟨w.heap.size, 0, none⟩) j j) l) := by show Own _ _ _ _; unfold Own; rw [HN.out]; exact hown1
        clear hown1
        go_wp2_with fail
        go_ret
        exact ⟨_, rfl, HO.out, hb⟩

/-! What a law holds: rows of its own in ranges of blocks, and arguments below them. -/
/-- A row of the law's own, whose block lies from lo on and below hi. -/
def OwnIn (w : World) (lo hi : Nat) (v : Value) (l : List Int) : Prop := Own w lo v l ∧ (∀ k, v.ownBlock = some k → lo ≤ k ∧ k < hi) ∧ hi ≤ w.heap.size
theorem OwnIn.of {w : World} {lo : Nat} {v : Value} {l : List Int} (h : Own w lo v l) : OwnIn w lo w.heap.size v l := ⟨h, fun k hk => World.ownsRow.lt h k hk, Nat.le_refl _⟩
theorem OwnIn.keep {w w' : World} {lo hi : Nat} {v : Value} {l : List Int} (h : OwnIn w lo hi v l) (hb : Below w.heap.size w w') : OwnIn w' lo hi v l := ⟨h.1.keep hb, h.2.1, Nat.le_trans h.2.2 hb.size⟩
theorem OwnIn.drewN {w : World} {lo hi : Nat} {v : Value} {l : List Int} (h : OwnIn w lo hi v l) (q : Nat) : OwnIn (w.drewN q) lo hi v l := ⟨h.1, h.2.1, by simpa using h.2.2⟩
theorem OwnIn.rd {w : World} {lo hi : Nat} {v : Value} {l : List Int} (h : OwnIn w lo hi v l) : Rd w v l := h.1.rd
theorem OwnIn.marked {w w' : World} {lo hi : Nat} {v : Value} {l l' : List Int} (h : OwnIn w lo hi v l) (hm : Own w' lo v l') (hz : w'.heap.size = w.heap.size) : OwnIn w' lo hi v l' := ⟨hm, h.2.1, by rw [hz]; exact h.2.2⟩
theorem OwnIn.other {w w' : World} {lo hi lo2 hi2 : Nat} {v v2 : Value} {l l2 : List Int} (h : OwnIn w lo hi v l) (x : OwnIn w lo2 hi2 v2 l2) (hg : w.grownBy w' v2.ownBlock) (hz : w'.heap.size = w.heap.size) (hd : hi ≤ lo2 ∨ hi2 ≤ lo) : OwnIn w' lo hi v l := by
  refine ⟨h.1.kept hg ?_, h.2.1, by rw [hz]; exact h.2.2⟩
  cases hv : v.ownBlock with
  | none => exact .inl rfl
  | some k =>
    refine .inr fun e' => ?_
    have h1 := h.2.1 k hv
    have h2 := x.2.1 k e'.symm
    omega
theorem OwnIn.belowMark {w wr w1 : World} {lo hi B : Nat} {v : Value} {l : List Int} (hb : Below B w wr) (h : OwnIn wr lo hi v l) (hg : wr.grownBy w1 v.ownBlock) (hB : B ≤ lo) (hB2 : B ≤ wr.heap.size) : Below B w w1 :=
  hb.grown hg hB2 (fun k hk => by have := (h.2.1 k hk).1; omega)
/-- An argument that lies below a number. -/
def RdB (w : World) (hi : Nat) (v : Value) (l : List Int) : Prop := Rd w v l ∧ (∀ b o, (∃ n c, v = .slice (some ⟨b, o, none⟩) n c ∧ 0 < n) → b < hi) ∧ hi ≤ w.heap.size
theorem RdB.of {w : World} {v : Value} {l : List Int} (h : Rd w v l) : RdB w w.heap.size v l := by
  refine ⟨h, ?_, Nat.le_refl _⟩
  rintro b o ⟨n, c, rfl, h0⟩
  obtain ⟨A, n', c', e, -, -, -, h3⟩ := h
  injection e with e1 e2 e3
  obtain ⟨b', o', ea, hlt, -⟩ := h3 (by omega)
  rw [← e1] at ea
  injection ea with ea
  injection ea with ea _ _
  omega
theorem RdB.keep {w w' : World} {hi : Nat} {v : Value} {l : List Int} (h : RdB w hi v l) (hb : Below w.heap.size w w') : RdB w' hi v l := ⟨h.1.keep hb, h.2.1, Nat.le_trans h.2.2 hb.size⟩
theorem RdB.drewN {w : World} {hi : Nat} {v : Value} {l : List Int} (h : RdB w hi v l) (q : Nat) : RdB (w.drewN q) hi v l := ⟨h.1.drewN q, h.2.1, by simpa using h.2.2⟩
theorem RdB.rd {w : World} {hi : Nat} {v : Value} {l : List Int} (h : RdB w hi v l) : Rd w v l := h.1
theorem RdB.other {w w' : World} {hi lo2 hi2 : Nat} {v v2 : Value} {l l2 : List Int} (h : RdB w hi v l) (x : OwnIn w lo2 hi2 v2 l2) (hg : w.grownBy w' v2.ownBlock) (hz : w'.heap.size = w.heap.size) (hd : hi ≤ lo2 ∨ hi2 ≤ 0) : RdB w' hi v l := by
  refine ⟨?_, h.2.1, by rw [hz]; exact h.2.2⟩
  obtain ⟨A, n, c, rfl, hn, h1, h2, h3⟩ := h.1
  refine ⟨A, n, c, rfl, hn, h1, h2, fun h0 => ?_⟩
  obtain ⟨b, o, ea, hlt, hc⟩ := h3 h0
  subst ea
  have hbh := h.2.1 b o ⟨n, c, rfl, h0⟩
  refine ⟨b, o, rfl, by rw [hz]; exact hlt, fun i hi' => ?_⟩
  refine (World.cell?_of_block (hg.block b hlt ?_)).trans (hc i hi')
  intro e'
  have h2 := x.2.1 b e'.symm
  have h3 := h.2.2
  omega
theorem i64_bdd {x : Int} (h : (Lit.int .i64 x).wf = true) : -9223372036854775808 ≤ x ∧ x ≤ 9223372036854775807 := by
  simp [Lit.wf, IntKind.min, IntKind.max, IntKind.signed, IntKind.bits] at h
  omega
end Go.Proofs.Ytddlpbpcdjddpaa
