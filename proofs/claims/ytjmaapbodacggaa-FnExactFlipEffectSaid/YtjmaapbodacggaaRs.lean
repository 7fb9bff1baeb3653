/- Slices of texts that are read: arguments and rows of the call's own; the law's own copy, comparison and count of them. -/
import Derived.Test.YtjmaapbodacggaaPl
import Derived.Test.YtjmaapbodacggaaProg
import Derived.OwnWalk
import Derived.WalkSpells
import Derived.WalkSmall
import Derived.Deep.AppendLies
import Derived.Deep.QuietTactic
import Derived.BigQuiet
import Derived.SliceStrings
namespace Go.Proofs.Ytjmaapbodacggaa
open Go Go.RowKit
set_option linter.unusedVariables false

theorem Try.infoStr : (Try.prog.info? 9).map (fun i => (i.zero, i.size, i.bytes)) = some (some (.string ByteArray.empty), 1, 16) := by kernel_rfl

/-- Texts as cells. -/
def strVals (l : List ByteArray) : List Value := l.map Value.string
theorem strVals_length (l : List ByteArray) : (strVals l).length = l.length := by simp [strVals]
theorem strVals_snoc (l : List ByteArray) (x : ByteArray) : strVals l ++ [.string x] = strVals (l ++ [x]) := by simp [strVals]
theorem strVals_at (l : List ByteArray) (k : Nat) (h : k < l.length) : (strVals l)[k]? = some (.string l[k]) := by simp [strVals, h]

/-- A slice of the call's own reads as texts. -/
def OwnT (w : World) (base : Nat) (v : Value) (l : List ByteArray) : Prop := w.ownsRow base 9 1 v l.length (strVals l)

theorem ownt_shape {w : World} {base : Nat} {e : TypeId} {size n : Nat} {v : Value} {xs : List Value} (h : w.ownsRow base e size v n xs) : ∃ A c, v = .slice A n c := by
  rcases h.2 with ⟨rfl, rfl⟩ | ⟨g, cap, cur, rfl, _⟩
  · exact ⟨_, _, rfl⟩
  · exact ⟨_, _, rfl⟩
theorem ownt_len {w : World} {base : Nat} {e : TypeId} {size n : Nat} {v : Value} {xs : List Value} (h : w.ownsRow base e size v n xs) : n ≤ maxLen := by
  rcases h.2 with ⟨rfl, rfl⟩ | ⟨g, cap, cur, rfl, hb, hg, hl, hm, _⟩
  · exact Nat.zero_le _
  · omega

/-- A row below a number stays where nothing below it turns. -/
theorem ownt_below {w w' : World} {base : Nat} {e : TypeId} {size n : Nat} {v : Value} {xs : List Value} (h : w.ownsRow base e size v n xs) (hb : Below w.heap.size w w') : w'.ownsRow base e size v n xs := by
  refine ⟨h.1, ?_⟩
  rcases h.2 with h' | ⟨g, cap, cur, rfl, h1, hg, h2, h3, h4, h5⟩
  · exact .inl h'
  · have hlt : g < w.heap.size := by
      rcases Nat.lt_or_ge g w.heap.size with h' | h'
      · exact h'
      · rw [Array.getElem?_eq_none h'] at hg; cases hg
    exact .inr ⟨g, cap, cur, rfl, h1, by rw [hb.block g hlt]; exact hg, h2, h3, h4, h5⟩

/-- A slice value reads as texts. -/
def RdS (w : World) (v : Value) (l : List ByteArray) : Prop :=
  ∃ (A : Option Addr) (n c : Nat), v = .slice A n c ∧ l.length = n ∧ n ≤ c ∧ c ≤ maxLen ∧
    (0 < n → ∃ b o, A = some ⟨b, o, none⟩ ∧ b < w.heap.size ∧ ∀ i (h : i < l.length), w.cell? ⟨b, o + i, none⟩ = some (.string l[i]))
theorem RdS.keep {w w' : World} {v : Value} {l : List ByteArray} (h : RdS w v l) (hb : Below w.heap.size w w') : RdS w' v l := by
  obtain ⟨A, n, c, e, hn, h1, h2, h3⟩ := h
  refine ⟨A, n, c, e, hn, h1, h2, fun h0 => ?_⟩
  obtain ⟨b, o, ea, hlt, hc⟩ := h3 h0
  exact ⟨b, o, ea, Nat.lt_of_lt_of_le hlt hb.size, fun i hi => (hb.cell (p := ⟨b, o + i, none⟩) hlt).trans (hc i hi)⟩
theorem RdS.drewN {w : World} {v : Value} {l : List ByteArray} (h : RdS w v l) (q : Nat) : RdS (w.drewN q) v l := by
  obtain ⟨A, n, c, e, hn, h1, h2, h3⟩ := h
  refine ⟨A, n, c, e, hn, h1, h2, fun h0 => ?_⟩
  obtain ⟨b, o, ea, hlt, hc⟩ := h3 h0
  exact ⟨b, o, ea, by simpa using hlt, fun i hi => by simpa using hc i hi⟩
theorem RdS.len {w : World} {v : Value} {l : List ByteArray} (h : RdS w v l) : l.length ≤ maxLen := by
  obtain ⟨A, n, c, e, hn, h1, h2, h3⟩ := h
  omega
theorem rds_sh {w : World} {v : Value} {l : List ByteArray} (h : RdS w v l) : ∃ A c, v = .slice A l.length c := by
  obtain ⟨A, n, c, e, hn, -⟩ := h
  exact ⟨A, c, by rw [e, hn]⟩
/-- A row of the call's own is one. -/
theorem OwnT.rds {w : World} {base : Nat} {v : Value} {l : List ByteArray} (h : OwnT w base v l) : RdS w v l := by
  have hl := ownt_len h
  rcases h.2 with ⟨rfl, h0⟩ | ⟨g, cap, cur, rfl, h1, hg, h2, h3, h4, h5⟩
  · exact ⟨none, 0, 0, rfl, h0, Nat.le_refl _, Nat.zero_le _, fun h => by omega⟩
  · refine ⟨_, _, _, rfl, rfl, h2, h3, fun _ => ⟨g, 0, rfl, ?_, fun i hi => ?_⟩⟩
    · rcases Nat.lt_or_ge g w.heap.size with h' | h'
      · exact h'
      · rw [Array.getElem?_eq_none h'] at hg; cases hg
    · have := (World.ownsRow.cellAt (w := w) (base := base) h i (by omega)).trans (strVals_at l i hi)
      rw [Nat.zero_add]; exact this
theorem OwnT.keep {w w' : World} {base : Nat} {v : Value} {l : List ByteArray} (h : OwnT w base v l) (hb : Below w.heap.size w w') : OwnT w' base v l := ownt_below h hb
theorem OwnT.set {w : World} {base : Nat} {v : Value} {l : List ByteArray} (h : OwnT w base v l) {a : Addr} (ha : a.block < base) (x : Value) : OwnT (w.setCell a x) base v l := ownsRow_setCell_below h ha x

theorem OwnT.base {w : World} {base base' : Nat} {v : Value} {l : List ByteArray} (h : OwnT w base v l) (hle : base' ≤ base) : OwnT w base' v l := by
  refine ⟨h.1, ?_⟩
  rcases h.2 with h' | ⟨g, cap, cur, h1, h2, h3⟩
  · exact .inl h'
  · exact .inr ⟨g, cap, cur, h1, by omega, h3⟩

/-- An argument. -/
theorem rds_open {H : Type} {enc : TypeId × Value → H} {W : World} {fuel : Nat} {v : Value} {x : DataW H × List MemPlace} {s : Nat → Bool} (h : DataW.trod enc Try.prog W 0 s true fuel 30 [v] = some x) :
    ∃ l, RdS W v l ∧ ∀ t ∈ l, t.size ≤ maxLen := by
  rcases Go.ChangeShapes.open_strings Try.underlying30 Try.underlying9 (by kernel_rfl) h with ⟨hcs, hx⟩ | ⟨a, len, cap, zs, hcs, hb, hl, hm, hz, hx, hcell, hwz⟩
  · simp at hcs
    exact ⟨[], ⟨none, 0, 0, hcs, rfl, Nat.le_refl _, Nat.zero_le _, fun h => by omega⟩, fun n hn => by simp at hn⟩
  · simp at hcs
    have hzl : len ≤ zs.length := by rw [hz]; split <;> omega
    refine ⟨zs.take len, ⟨_, _, _, hcs, by rw [List.length_take]; omega, hl, hm, fun h0 => ?_⟩, fun n hn => hwz n (List.mem_of_mem_take hn)⟩
    obtain ⟨b, off, spot⟩ := a
    have c0 := hcell 0 (by omega)
    have hspot : spot = none := by simpa [Addr.add] using World.cell?_spot c0
    subst hspot
    have hadd : ∀ i, (⟨b, off, none⟩ : Addr).add i = ⟨b, off + i, none⟩ := fun i => by unfold Addr.add; split <;> simp_all
    refine ⟨b, off, rfl, ?_, fun i hi => ?_⟩
    · rw [hadd] at c0
      exact World.block_lt_of_cell? _ _ c0
    · rw [List.length_take] at hi
      rw [← hadd, hcell i (by omega)]
      simp [List.getD, List.getElem?_eq_getElem (show i < zs.length by omega)]

set_option maxRecDepth 100000 in
/-- eqStringS over two slices that read as the same texts. -/
theorem eqStringS_rd (w : World) (v1 v2 : Value) (l : List ByteArray) (h1 : RdS w v1 l) (h2 : RdS w v2 l) :
    Calls Try.prog 68 #[v1, v2] w fun e w' => e = .returned (.bool true) ∧ ∃ q, w' = w.drewN q := by
  have hlen := h1.len
  obtain ⟨A1, n, c1, rfl, hn, -, -, r1⟩ := h1
  obtain ⟨A2, n2, c2, rfl, hn2, -, -, r2⟩ := h2
  obtain rfl : n = n2 := by omega
  have hne : ((n : Int) != (n : Int)) = false := by simp
  have hnl : n ≤ 9223372036854775807 := by unfold maxLen at hlen; omega
  clear hlen
  by_cases h0 : n = 0
  · subst h0
    clear r1 r2
    go_enter Try.func68, Try.ntmps68
    go_wp2
    refine wp_loop_rounds 1 ?_
    rw [rounds_succ]
    go_wp2
    go_ret
    exact ⟨rfl, 0, rfl⟩
  · obtain ⟨b1, o1, rfl, -, k1⟩ := r1 (by omega)
    obtain ⟨b2, o2, rfl, -, k2⟩ := r2 (by omega)
    have K1 := Lib.hid k1
    have K2 := Lib.hid k2
    have HN := Lib.hid hn
    clear r1 r2 k1 k2 hn hn2 h0
    go_enter Try.func68, Try.ntmps68
    go_wp2
    go_loopw [5] (fun i wr => ∃ k q : Nat, k ≤ n ∧ i = .int .i64 k ∧ wr = w.drewN q) (fun i _ => n - (intOf i).toNat)
    case atStart => exact ⟨0, 0, Nat.zero_le _, rfl, rfl⟩
    case round =>
      obtain ⟨k, q, hk, rfl, rfl⟩ := hrel
      by_cases hlt : k < n
      · have hk0 : (0 : Int) ≤ (k : Int) := by omega
        have hk1 : (k : Int) < (n : Int) := by omega
        have hc1 := K1.out k (by have := HN.out; omega)
        have hc2 := K2.out k (by have := HN.out; omega)
        generalize l[k]'(by have := HN.out; omega) = x at hc1 hc2
        go_wp2
        go_quiet (fail)
        go_wp2
        go_roundw
        case rel => exact ⟨k + 1, _, by omega, by go_num, rfl⟩
        case measure => simp [intOf]; omega
      · go_wp2
        go_ret
        exact ⟨rfl, _, rfl⟩

def spart (l : List ByteArray) (n k : Nat) : List Value := strVals (l.take k) ++ List.replicate (n - k) (Value.string ByteArray.empty)
theorem spart_zero (l : List ByteArray) (n : Nat) : spart l n 0 = List.replicate n (Value.string ByteArray.empty) := by simp [spart, strVals]
theorem spart_full (l : List ByteArray) (n : Nat) (h : l.length = n) : spart l n n = strVals l := by simp [spart, ← h]
theorem spart_length (l : List ByteArray) (n k : Nat) (h : l.length = n) (hk : k ≤ n) : (spart l n k).length = n := by simp [spart, strVals]; omega
theorem spart_set (l : List ByteArray) (n k : Nat) (hl : l.length = n) (hk : k < n) : (spart l n k).set k (.string (l[k]'(by omega))) = spart l n (k + 1) := by
  unfold spart
  have e : (strVals (l.take k)).length = k := by simp [strVals]; omega
  rw [List.set_append, if_neg (by omega), e, Nat.sub_self, List.take_succ_eq_append_getElem (by omega), ← strVals_snoc]
  obtain ⟨m, hm⟩ : ∃ m, n - k = m + 1 := ⟨n - k - 1, by omega⟩
  rw [hm, show n - (k + 1) = m from by omega, List.replicate_succ]
  simp

set_option maxRecDepth 100000 in
/-- The law's own copy of a slice of texts. -/
theorem toStringS_any (w : World) (v : Value) (l : List ByteArray) (h : RdS w v l) (hl : l.length ≤ 4000000) :
    Calls Try.prog 64 #[v] w fun e w' => ∃ u, e = .returned u ∧ OwnT w' w.heap.size u l ∧ Below w.heap.size w w' := by
  obtain ⟨i0, hi, hz0, hz1, hz2⟩ := info_parts Try.infoStr
  obtain ⟨A, n, c, rfl, hn, -, -, r⟩ := h
  rw [hn] at hl
  have HN := Lib.hid hn
  clear hn
  by_cases h0 : n = 0
  · have HZ := Lib.hid h0
    clear r h0
    go_enter Try.func64, Try.ntmps64
    go_wp2_with (at_make; refine wpList_make_full _ rfl _ _ 30 rfl w.heap.size 9 i0 (.string ByteArray.empty) 1 Try.underlying30 hi hz0 hz1 _ _ _ _ n rfl rfl rfl rfl ?b2 ?b3 (Nat.le_refl _) ?_)
    case b2 => rw [hz2]; omega
    case b3 => unfold maxLen; omega
    intro w1 hown hgrow
    have hb1 : Below w.heap.size w w1 := (Below.refl _ _).grown hgrow (Nat.le_refl _) (by simp)
    rw [toList_madeCells_one] at hown
    clear hgrow
    have hO : OwnT w1 w.heap.size (.slice (some ⟨w.heap.size, 0, none⟩) n n) l := by
      unfold OwnT
      rw [HN.out, List.length_eq_zero_iff.1 (HN.out.trans HZ.out)]
      have := HZ.out
      subst this
      simpa [strVals] using hown
    have HO := Lib.hid hO
    clear hO hown
    obtain rfl : n = 0 := HZ.out
    go_wp2_with fail
    refine wp_loop_rounds 1 ?_
    rw [rounds_succ]
    go_wp2
    go_ret
    exact ⟨_, rfl, HO.out, hb1⟩
  · obtain ⟨b, o, rfl, hlt0, k0⟩ := r (by omega)
    have K := Lib.hid k0
    clear r k0 h0
    go_enter Try.func64, Try.ntmps64
    go_wp2_with (at_make; refine wpList_make_full _ rfl _ _ 30 rfl w.heap.size 9 i0 (.string ByteArray.empty) 1 Try.underlying30 hi hz0 hz1 _ _ _ _ n rfl rfl rfl rfl ?b2 ?b3 (Nat.le_refl _) ?_)
    case b2 => rw [hz2]; omega
    case b3 => unfold maxLen; omega
    intro w1 hown hgrow
    have hb1 : Below w.heap.size w w1 := (Below.refl _ _).grown hgrow (Nat.le_refl _) (by simp)
    rw [toList_madeCells_one, ← spart_zero l n] at hown
    clear hgrow
    go_wp2_with fail
    go_loopw [4] (fun i wr => ∃ j : Nat, j ≤ n ∧ i = .int .i64 j ∧ wr.ownsRow w.heap.size 9 1 (.slice (some ⟨w.heap.size, 0, none⟩) n n) n (spart l n j) ∧ Below w.heap.size w wr) (fun i _ => n - (intOf i).toNat)
    case atStart => exact ⟨0, Nat.zero_le _, rfl, hown, hb1⟩
    case round =>
      obtain ⟨j, hj, rfl, hown1, hb⟩ := hrel
      clear hown hb1
      by_cases hlt : j < n
      · have hk0 : (0 : Int) ≤ (j : Int) := by omega
        have hk1 : (j : Int) < (n : Int) := by omega
        have hc0 := (hb.cell (p := ⟨b, o + j, none⟩) hlt0).trans (K.out j (by have := HN.out; omega))
        have hfr := hown1.frozenAt j
        have hcl := hown1.cellAt j (by omega)
        obtain ⟨u, hu⟩ : ∃ u, (spart l n j)[j]? = some u := ⟨_, List.getElem?_eq_getElem (by rw [spart_length _ _ _ HN.out (by omega)]; omega)⟩
        rw [hu] at hcl
        have hst := (hown1.stored j (.string (l[j]'(by have := HN.out; omega)))).1
        rw [spart_set l n j HN.out hlt] at hst
        have HST := Lib.hid hst
        have HB := Lib.hid (hb.setCell (p := ⟨w.heap.size, j, none⟩) (Nat.le_refl _) (.string (l[j]'(by have := HN.out; omega))))
        clear hst hu hown1 hb
        generalize l[j]'(by have := HN.out; omega) = x at *
        go_wp2_with fail
        first | go_roundw | (go_region; go_wp2_with fail; go_roundw)
        case rel => exact ⟨j + 1, by omega, by go_num, HST.out, HB.out⟩
        case measure => simp [intOf]; omega
      · obtain rfl : j = n := by omega
        rw [spart_full _ _ HN.out] at hown1
        have HO : Hid (OwnT wr w.heap.size (.slice (some ⟨w.heap.size, 0, none⟩) j j) l) := by show OwnT _ _ _ _; unfold OwnT; rw [HN.out]; exact hown1
        clear hown1
        go_wp2_with fail
        go_ret
        exact ⟨_, rfl, HO.out, hb⟩

/-! The law's count of what slices of texts hold. -/
def szStr : Int → List ByteArray → Int
  | left, [] => left
  | left, s :: ss => if left - s.size < 0 then -1 else szStr (left - s.size) ss
def szS (g : List ByteArray) (left : Int) : Int := if left - g.length < 0 then -1 else szStr (left - g.length) g
theorem szStr_le : ∀ (ss : List ByteArray) (left : Int), 0 ≤ left → -1 ≤ szStr left ss ∧ szStr left ss ≤ left
  | [], left, h => by rw [szStr]; omega
  | r :: rs, left, h => by
    rw [szStr]
    split
    · omega
    · have := szStr_le rs (left - r.size) (by omega)
      omega
theorem szS_le (g : List ByteArray) (left : Int) (h : 0 ≤ left) : -1 ≤ szS g left ∧ szS g left ≤ left := by
  unfold szS
  split
  · omega
  · have := szStr_le g (left - g.length) (by omega)
    omega
theorem szStr_ok : ∀ (ss : List ByteArray) (left : Int), 0 ≤ szStr left ss → ∀ s ∈ ss, (s.size : Int) ≤ left
  | [], left, h, r, hr => by simp at hr
  | x :: rs, left, h, r, hr => by
    rw [szStr] at h
    split at h
    · omega
    · rcases List.mem_cons.1 hr with rfl | h'
      · omega
      · have := szStr_ok rs _ h r h'
        omega
theorem szS_ok (g : List ByteArray) (left : Int) (h : 0 ≤ szS g left) : (g.length : Int) ≤ left ∧ ∀ s ∈ g, (s.size : Int) ≤ left := by
  unfold szS at h
  split at h
  · omega
  · refine ⟨by omega, fun r hr => ?_⟩
    have := szStr_ok g _ h r hr
    omega

set_option maxRecDepth 100000 in
theorem szStringS_any (w : World) (v : Value) (g : List ByteArray) (left : Int) (h : RdS w v g) (hm : ∀ s ∈ g, s.size ≤ maxLen) (h0 : 0 ≤ left) (h1 : left ≤ 4000000) :
    Calls Try.prog 59 #[v, .int .i64 left] w fun e w' => e = .returned (.int .i64 (szS g left)) ∧ w = w' := by
  have hlen := h.len
  unfold maxLen at hlen
  obtain ⟨A, n, c, rfl, hn, -, -, r⟩ := h
  rw [hn] at hlen
  have HN := Lib.hid hn
  have t1 : IntKind.i64.wrap (left - (n : Int)) = left - (n : Int) := IntWalk.i64_in _ (by omega)
  by_cases hs : left - (n : Int) < 0
  · have HS : Hid (szS g left = -1) := by show _ = _; unfold szS; rw [HN.out, if_pos hs]
    clear hn r hm
    go_enter Try.func59, Try.ntmps59
    go_wp2
    go_ret
    exact ⟨ret_int (by rw [HS.out]), rfl⟩
  · have HS : Hid (szS g left = szStr (left - (n : Int)) g) := by show _ = _; unfold szS; rw [HN.out, if_neg hs]
    have HR := Lib.hid r
    have HM := Lib.hid hm
    clear hn r hm
    go_enter Try.func59, Try.ntmps59
    go_wp2_with fail
    go_loop [1, 5] (fun l i => ∃ (k : Nat) (lf : Int), k ≤ n ∧ i = .int .i64 k ∧ l = .int .i64 lf ∧ 0 ≤ lf ∧ lf ≤ 4000000 ∧ szStr lf (g.drop k) = szS g left) (fun _ i => n - (intOf i).toNat)
    case atStart => exact ⟨0, _, Nat.zero_le _, rfl, rfl, by omega, by omega, by rw [HS.out]; rfl⟩
    case round =>
      obtain ⟨k, lf, hk, rfl, rfl, l0, l1, hsz⟩ := hrel
      by_cases hlt : k < n
      · obtain ⟨b, o, rfl, hlt0, hc⟩ := HR.out (by omega)
        have hkl : k < g.length := by have := HN.out; omega
        have hc0 := hc k hkl
        have hx := HM.out g[k] (List.getElem_mem hkl)
        unfold maxLen at hx
        rw [List.drop_eq_getElem_cons hkl, szStr] at hsz
        have HSZ := Lib.hid hsz
        have hk0 : (0 : Int) ≤ (k : Int) := by omega
        have hk1 : (k : Int) < (n : Int) := by omega
        clear hc hsz
        generalize g[k] = row at *
        by_cases hs2 : lf - (row.size : Int) < 0
        · have HE : Hid (szS g left = -1) := by show _ = _; have := HSZ.out; rw [if_pos hs2] at this; exact this.symm
          go_wp2_with fail
          go_ret
          exact ⟨ret_int (by rw [HE.out]), rfl⟩
        · have HE : Hid (szStr (lf - (row.size : Int)) (g.drop (k + 1)) = szS g left) := by show _ = _; have := HSZ.out; rw [if_neg hs2] at this; exact this
          go_wp2_with fail
          go_round
          case rel => exact ⟨k + 1, _, by omega, by go_num, rfl, by omega, by omega, HE.out⟩
          case measure => simp [intOf]; omega
      · obtain rfl : k = n := by omega
        have HE : Hid (lf = szS g left) := by show _ = _; rw [List.drop_of_length_le (by have := HN.out; omega), szStr] at hsz; exact hsz
        clear hsz
        go_wp2_with fail
        go_ret
        exact ⟨ret_int HE.out, rfl⟩
end Go.Proofs.Ytjmaapbodacggaa
