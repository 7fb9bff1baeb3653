/- The program's trieOf: its nodes are those of the paths of the words. -/
import Derived.Test.YtijmfienaoeboaaTrQ
import Derived.Test.YtijmfienaoeboaaCdi
import Derived.Lib.OthersKept
import Derived.Laws.OwnMore
namespace Go.Proofs.Ytijmfienaoeboaa
open Go Go.RowKit Go.Maps
set_option linter.unusedVariables false

theorem Try.infoNode : (Try.prog.info? 86).map (fun i => (i.zero, i.size, i.bytes)) = some (some (.agg #[.int .i64 0, .int .i64 0, .int .i64 0]), 3, 24) := by kernel_rfl
def noNode : List Value := [.int .i64 (-1), .int .i64 (-1), .int .i64 (-1)]
theorem emptyNode_any (w : World) :
    Calls Try.prog 121 #[] w fun e w' => e = .returned (.agg #[.int .i64 (-1), .int .i64 (-1), .int .i64 (-1)]) ∧ Below w.heap.size w w' := by
  go_enter Try.func121, Try.ntmps121
  go_wp2_with fail
  simp [bodyPost, results, Try.results121, go_sem]
  exact (Below.refl _ _).alloc (Nat.le_refl _) _

/-- The words as paths. -/
def pth (l : List ByteArray) : List Bs := l.map (·.data.toList)
theorem pth_snoc (l : List ByteArray) (k : Nat) (h : k < l.length) : pth (l.take (k + 1)) = pth (l.take k) ++ [l[k].data.toList] := by
  unfold pth; rw [List.take_succ_eq_append_getElem h, List.map_append]; rfl
theorem pth_in {l : List ByteArray} {x : ByteArray} (h : x ∈ l) : x.data.toList ∈ pth l := List.mem_map.2 ⟨x, h, rfl⟩
theorem toList_inj {x y : ByteArray} (h : x.data.toList = y.data.toList) : x = y := ByteArray.ext (Array.toList_inj.1 h)
theorem pth_mem {l : List ByteArray} {x : ByteArray} : x.data.toList ∈ pth l ↔ x ∈ l := by
  constructor
  · intro h
    obtain ⟨y, hy, e⟩ := List.mem_map.1 h
    rw [← toList_inj e]; exact hy
  · exact pth_in

/-- A trie of the call's own. -/
structure TrieV (w : World) (base g n cap : Nat) (ps ws : List Bs) : Prop where
  own : w.ownsRow base 86 3 (.slice (some ⟨g, 0, none⟩) n cap) n (nodes ps ws)
  len : ps.length = n
  tr : Trie ps ws
  cov : Cov ps ws []
  small : n ≤ 193
theorem TrieV.keep {w w' : World} {base g n cap : Nat} {ps ws : List Bs} (h : TrieV w base g n cap ps ws) (hb : Below w.heap.size w w') : TrieV w' base g n cap ps ws :=
  ⟨ownt_below h.own hb, h.len, h.tr, h.cov, h.small⟩
theorem TrieV.at {w : World} {base g n cap : Nat} {ps ws : List Bs} (h : TrieV w base g n cap ps ws) (i j : Nat) (hi : i < ps.length) (hj : j < 3) : w.cell? ⟨g, 3 * i + j, none⟩ = (nod ps ws ps[i])[j]? := by
  rw [h.own.cellAt (3 * i + j) (by have := h.len; omega), nodes_at ps ws i j hi hj]
def TrPost (w : World) (l : List ByteArray) (e : Ending) (w' : World) : Prop :=
  ∃ g n cap ps, e = .returned (.tuple #[.slice (some ⟨g, 0, none⟩) n cap, .bool true]) ∧ TrieV w' w.heap.size g n cap ps (pth l) ∧ Below w.heap.size w w'

/-- What the loop over a word holds. -/
structure TL (w wq : World) (kb g m cap : Nat) (x : ByteArray) (pit pos : Nat) (ps ws : List Bs) (i k : Nat) : Prop where
  it : wq.heap[kb]? = some (.stringIter x pit)
  own : wq.ownsRow w.heap.size 86 3 (.slice (some ⟨g, 0, none⟩) m cap) m (nodes ps ws)
  len : ps.length = m
  ne : g ≠ kb
  kb : w.heap.size ≤ kb
  tr : Trie ps ws
  cov : Cov ps ws x.data.toList
  here : ps[i]? = some (x.data.toList.take pos)
  small : m ≤ 1 + 12 * k + pos
  bel : Below w.heap.size w wq
theorem ownsRow_iterAt {w : World} {base g n cap k : Nat} {e : TypeId} {size : Nat} {xs : List Value} (h : w.ownsRow base e size (.slice (some ⟨g, 0, none⟩) n cap) n xs) (hk : g ≠ k) (s : ByteArray) (p : Nat) : (w.iterAt k s p).ownsRow base e size (.slice (some ⟨g, 0, none⟩) n cap) n xs := by
  refine ⟨h.1, ?_⟩
  rcases h.2 with ⟨h', _⟩ | ⟨g', cap', cur, h', h1, hg, h2, h3, h4, h5⟩
  · simp at h'
  · injection h' with h' _ h6
    injection h' with h'
    injection h' with h' _ _
    subst h' h6
    exact .inr ⟨g, cap, cur, rfl, h1, by rw [Lib.iterAt_other _ _ _ _ _ hk]; exact hg, h2, h3, h4, h5⟩
theorem TL.next {w wq : World} {kb g m cap : Nat} {x : ByteArray} {pit pos : Nat} {ps ws : List Bs} {i k : Nat} (h : TL w wq kb g m cap x pit pos ps ws i k) (p : Nat) : TL w (wq.iterAt kb x p) kb g m cap x p pos ps ws i k :=
  ⟨Lib.iterAt_heap _ _ _ _ _ h.it, ownsRow_iterAt h.own h.ne _ _, h.len, h.ne, h.kb, h.tr, h.cov, h.here, h.small, Lib.below_iterAt h.bel h.kb _ _⟩
theorem TL.lt {w wq : World} {kb g m cap : Nat} {x : ByteArray} {pit pos : Nat} {ps ws : List Bs} {i k : Nat} (h : TL w wq kb g m cap x pit pos ps ws i k) : i < m := by
  have := (List.getElem?_eq_some_iff.1 h.here).1
  have := h.len
  omega
theorem TL.path {w wq : World} {kb g m cap : Nat} {x : ByteArray} {pit pos : Nat} {ps ws : List Bs} {i k : Nat} (h : TL w wq kb g m cap x pit pos ps ws i k) : ∃ hi : i < ps.length, ps[i] = x.data.toList.take pos := List.getElem?_eq_some_iff.1 h.here
theorem TL.cell {w wq : World} {kb g m cap : Nat} {x : ByteArray} {pit pos : Nat} {ps ws : List Bs} {i k : Nat} (h : TL w wq kb g m cap x pit pos ps ws i k) (d : Nat) (hd : d < 2) (c : UInt8) (hc : c = if d = 0 then 48 else 49) :
    wq.cell? ⟨g, 3 * i + d, none⟩ = some (.int .i64 (ix ps (x.data.toList.take pos ++ [c]))) := by
  obtain ⟨hi, e⟩ := h.path
  rw [h.own.cellAt (3 * i + d) (by have := h.lt; omega), nodes_at ps ws i d hi (by omega), e]
  rcases (show d = 0 ∨ d = 1 from by omega) with rfl | rfl
  · simp at hc; subst hc; rfl
  · simp at hc; subst hc; rfl
theorem TL.cell2 {w wq : World} {kb g m cap : Nat} {x : ByteArray} {pit pos : Nat} {ps ws : List Bs} {i k : Nat} (h : TL w wq kb g m cap x pit pos ps ws i k) : wq.cell? ⟨g, 3 * i + 2, none⟩ = some (.int .i64 (ix ws (x.data.toList.take pos))) := by
  obtain ⟨hi, e⟩ := h.path
  rw [h.own.cellAt (3 * i + 2) (by have := h.lt; omega), nodes_at ps ws i 2 hi (by omega), e]
  rfl
/-- The next node is there. -/
theorem TL.old {w wq : World} {kb g m cap : Nat} {x : ByteArray} {pos : Nat} {ps ws : List Bs} {i k : Nat} (h : TL w wq kb g m cap x (pos + 1) pos ps ws i k) (hp : pos < x.size) (c : UInt8) (hc : x[pos] = c) (hin : x.data.toList.take pos ++ [c] ∈ ps) :
    ∃ j : Nat, ix ps (x.data.toList.take pos ++ [c]) = (j : Int) ∧ TL w wq kb g m cap x (pos + 1) (pos + 1) ps ws j k := by
  obtain ⟨j, hj, e1, e2⟩ := ix_at hin
  refine ⟨j, e1, ⟨h.it, h.own, h.len, h.ne, h.kb, h.tr, h.cov, ?_, by have := h.small; omega, h.bel⟩⟩
  rw [List.getElem?_eq_getElem hj, e2, take_snoc x pos hp, hc]
/-- The next node comes anew. -/
theorem TL.new {w W1 W3 W4 : World} {kb g m cap g' cap' : Nat} {x : ByteArray} {pos : Nat} {ps ws : List Bs} {i k d : Nat} {o : Obj} (h : TL w W1 kb g m cap x (pos + 1) pos ps ws i k) (hp : pos < x.size) (hd : d < 2) (c : UInt8) (hcd : c = if d = 0 then 48 else 49) (hc : x[pos] = c) (hin : x.data.toList.take pos ++ [c] ∉ ps)
    (h3 : Below (W1.setCell ⟨g, 3 * i + d, none⟩ (.int .i64 (m : Int))).heap.size (W1.setCell ⟨g, 3 * i + d, none⟩ (.int .i64 (m : Int))) W3)
    (hown : W4.ownsRow w.heap.size 86 3 (.slice (some ⟨g', 0, none⟩) (m + 1) cap') (m + 1) ((nodes ps ws).set (3 * i + d) (.int .i64 (m : Int)) ++ noNode)) (hgrow : (W3.alloc o).grownBy W4 (some g)) (hat : some g = some g' ∨ g' = W3.heap.size + 1) :
    ∃ ps', TL w W4 kb g' (m + 1) cap' x (pos + 1) (pos + 1) ps' ws m k ∧ W4.cell? ⟨g', 3 * i + d, none⟩ = some (.int .i64 (m : Int)) := by
  obtain ⟨hi, e⟩ := h.path
  have hlen := h.len
  subst hlen
  obtain ⟨e1, e2⟩ := grow h.tr i hi d hd c hcd (by rw [e]; exact hin)
  have hltg := h.lt
  have hk1 : kb < W1.heap.size := (Array.getElem?_eq_some_iff.1 h.it).1
  have hz : (W1.setCell ⟨g, 3 * i + d, none⟩ (.int .i64 (ps.length : Int))).heap.size = W1.heap.size := by simp [World.setCell]
  have hk3 : W3.heap[kb]? = some (.stringIter x (pos + 1)) := by
    rw [h3.block kb (by rw [hz]; exact hk1), Below.heap_setCell _ _ _ _ (fun e' => h.ne e'.symm)]
    exact h.it
  have hs3 : W1.heap.size ≤ W3.heap.size := by have := h3.size; rw [hz] at this; exact this
  have hk4 : W4.heap[kb]? = some (.stringIter x (pos + 1)) := by
    rw [hgrow.block kb (by simp; omega) (by intro e'; injection e' with e'; exact h.ne e'.symm)]
    rw [Below.heap_alloc _ _ _ (by omega)]; exact hk3
  have hgb : w.heap.size ≤ g := by
    have := (h.own.lt g rfl).1; exact this
  refine ⟨ps ++ [x.data.toList.take pos ++ [c]], ⟨hk4, ?_, by simp, ?_, h.kb, ?_, ?_, ?_, by have := h.small; omega, ?_⟩, ?_⟩
  · rw [← e, ← e1]; exact hown
  · rcases hat with e' | e'
    · injection e' with e'; rw [← e']; exact h.ne
    · omega
  · rw [← e]; exact e2
  · intro p hp'
    rcases List.mem_append.1 hp' with h' | h'
    · exact h.cov p h'
    · simp at h'
      subst h'
      right; right
      rw [← hc, ← take_snoc x pos hp]
      exact List.take_prefix _ _
  · rw [List.getElem?_append_right (Nat.le_refl _), Nat.sub_self, take_snoc x pos hp, hc]; rfl
  · have b1 := h.bel.setCell (p := ⟨g, 3 * i + d, none⟩) (by exact hgb) (.int .i64 (ps.length : Int))
    have b3 := b1.trans (h3.mono b1.size)
    exact (b3.alloc b3.size o).grown hgrow (by have := b3.size; simp; omega) (fun j hj => by injection hj with hj; omega)
  · rw [hown.cellAt (3 * i + d) (by omega), List.getElem?_append_left (by rw [List.length_set, nodes_len]; omega), List.getElem?_set_self (by rw [nodes_len]; omega)]

theorem c3_node (wr : World) (t : TypeId) : ∀ (j : Nat) (u : Value), noNode[j]? = some u → (wr.alloc (.cells #[.int .i64 (-1), .int .i64 (-1), .int .i64 (-1)] t)).cell? ((⟨wr.heap.size, 0, none⟩ : Addr).add j) = some u := by
  intro j u hj
  have hadd : (⟨wr.heap.size, 0, none⟩ : Addr).add j = ⟨wr.heap.size, j, none⟩ := by unfold Addr.add; split <;> simp_all
  rw [hadd, World.cell?_alloc_at _ _ _ _ rfl]
  simpa [noNode] using hj

set_option maxHeartbeats 1600000 in
theorem trieOf_no (w : World) (v : Value) (l : List ByteArray) (h : RdS w v l) (hm : ∀ s ∈ l, s.size ≤ 4000000) (hc : cdOk l = false) :
    Calls Try.prog 69 #[v] w fun e w' => e = .returned (.tuple #[.slice none 0 0, .bool false]) ∧ Below w.heap.size w w' := by
  have HC := Lib.hid (isCode_impl w v l h hm)
  rw [hc] at HC
  clear h hm hc
  go_enter Try.func69, Try.ntmps69
  go_wp2_with fail
  refine HC.out.mono ?_; rintro e w1 ⟨rfl, hb1⟩
  have HB := Lib.hid hb1
  clear hb1
  go_wp2_with fail
  go_ret2
  exact ⟨rfl, HB.out⟩
/-- What the loop over the words holds. -/
structure TO (w wr : World) (g m cap : Nat) (ps : List Bs) (l : List ByteArray) (k : Nat) : Prop where
  own : wr.ownsRow w.heap.size 86 3 (.slice (some ⟨g, 0, none⟩) m cap) m (nodes ps (pth (l.take k)))
  len : ps.length = m
  tr : Trie ps (pth (l.take k))
  cov : Cov ps (pth (l.take k)) []
  small : m ≤ 1 + 12 * k
  bel : Below w.heap.size w wr
theorem TO.start (w w2 : World) (l : List ByteArray) (hb : Below w.heap.size w w2) : TO w (w2.alloc (.cells #[.int .i64 (-1), .int .i64 (-1), .int .i64 (-1)] 86)) w2.heap.size 1 1 [[]] l 0 := by
  refine ⟨?_, rfl, ?_, ?_, by decide, hb.alloc hb.size _⟩
  · rw [List.take_zero]
    have e : pth [] = [] := rfl
    rw [e, trie_nil.1]
    exact ⟨rfl, .inr ⟨_, 1, _, rfl, hb.size, heap_alloc_new w2 _, Nat.le_refl _, by decide, rfl, rfl⟩⟩
  · rw [List.take_zero]; exact trie_nil.2
  · intro p hp; simp at hp; exact .inl hp
theorem TO.enter {w wr : World} {g m cap : Nat} {ps : List Bs} {l : List ByteArray} {k : Nat} (h : TO w wr g m cap ps l k) (x : ByteArray) : TL w (wr.alloc (.stringIter x 0)) wr.heap.size g m cap x 0 0 ps (pth (l.take k)) 0 k := by
  refine ⟨heap_alloc_new wr _, h.own.alloc _, h.len, ?_, h.bel.size, h.tr, ?_, ?_, by have := h.small; omega, h.bel.alloc h.bel.size _⟩
  · have := (h.own.lt g rfl).2; omega
  · intro p hp
    rcases h.cov p hp with h' | h' | h'
    · exact .inl h'
    · exact .inr (.inl h')
    · left; exact List.prefix_nil.1 h'
  · rw [List.take_zero]; exact h.tr.root
theorem TO.leave {w wq : World} {kb g m cap : Nat} {x : ByteArray} {ps : List Bs} {l : List ByteArray} {i k pit : Nat} (hkl : k < l.length) (hx : l[k] = x) (hnd : l.Nodup) (h12 : x.size ≤ 12) (h : TL w wq kb g m cap x pit x.size ps (pth (l.take k)) i k) :
    TO w (wq.setCell ⟨g, 3 * i + 2, none⟩ (.int .i64 (k : Int))) g m cap ps l (k + 1) := by
  obtain ⟨hi, e⟩ := h.path
  rw [List.take_of_length_le (by simp)] at e
  have hnot : ps[i] ∉ pth (l.take k) := by
    rw [e, pth_mem]
    intro hin
    have := (nodup_snoc (l.take k) x).1 (by rw [← hx, ← List.take_succ_eq_append_getElem hkl]; exact hnd.sublist (List.take_sublist _ _))
    exact this.2 hin
  obtain ⟨e1, e2⟩ := mark h.tr i hi hnot
  have hw : pth (l.take (k + 1)) = pth (l.take k) ++ [ps[i]] := by rw [pth_snoc l k hkl, hx, e]
  have hl : (pth (l.take k)).length = k := by unfold pth; rw [List.length_map, List.length_take]; omega
  refine ⟨?_, h.len, ?_, ?_, by have := h.small; omega, h.bel.setCell (p := ⟨g, 3 * i + 2, none⟩) ((h.own.lt g rfl).1) _⟩
  · rw [hw, ← e1, hl]
    exact (h.own.stored (3 * i + 2) _).1
  · rw [hw]; exact e2
  · rw [hw, e]
    intro p hp
    rcases h.cov p hp with h' | ⟨u, hu, h'⟩ | h'
    · exact .inl h'
    · exact .inr (.inl ⟨u, by simp [hu], h'⟩)
    · exact .inr (.inl ⟨_, by simp, h'⟩)

set_option maxHeartbeats 4000000 in
set_option maxRecDepth 100000 in
theorem trieOf_yes (w : World) (v : Value) (l : List ByteArray) (h : RdS w v l) (hm : ∀ s ∈ l, s.size ≤ 4000000) (hc : cdOk l = true) :
    Calls Try.prog 69 #[v] w (TrPost w l) := by
  obtain ⟨i0, hi, hz0, hz1, hz2⟩ := info_parts Try.infoNode
  have HC := Lib.hid (isCode_impl w v l h hm)
  rw [hc] at HC
  obtain ⟨h1, h16, hnd, hcw⟩ := cdOk_parts hc
  have hlen := h.len
  unfold maxLen at hlen
  obtain ⟨A, n, c, rfl, hn, -, -, r⟩ := h
  rw [hn] at hlen h16 h1
  have HN := Lib.hid hn
  have HR := Lib.hid r
  have HM := Lib.hid hcw
  have HND := Lib.hid hnd
  clear hn r hcw hc hnd hm
  go_enter Try.func69, Try.ntmps69
  go_wp2_with fail
  refine HC.out.mono ?_; rintro e w1 ⟨rfl, hb1⟩
  have HB1 := Lib.hid hb1
  clear hb1
  go_wp2_with fail
  refine (emptyNode_any _).mono ?_; rintro e w2 ⟨rfl, hb2⟩
  have HB2 := Lib.hid (HB1.out.trans (hb2.mono HB1.out.size))
  clear hb2 HB1
  go_wp2_with fail
  have HS := Lib.hid (TO.start w w2 l HB2.out)
  clear HB2 HC
  go_loopw [4, 17] (fun t i wr => ∃ k g m cap : Nat, ∃ ps : List Bs, k ≤ n ∧ i = .int .i64 k ∧ t = .slice (some ⟨g, 0, none⟩) m cap ∧ TO w wr g m cap ps l k) (fun _ i _ => n - (intOf i).toNat)
  case atStart => exact ⟨0, w2.heap.size, 1, 1, [[]], Nat.zero_le _, rfl, rfl, HS.out⟩
  case round =>
    obtain ⟨k, g, m, cap, ps, hk, rfl, rfl, hto⟩ := hrel
    have HTO := Lib.hid hto
    clear hto HS
    by_cases hlt : k < n
    · obtain ⟨b, o, rfl, hlt0, hc⟩ := HR.out (by omega)
      have hkl : k < l.length := by have := HN.out; omega
      have hc0 := (HTO.out.bel.cell (p := ⟨b, o + k, none⟩) hlt0).trans (hc k hkl)
      obtain ⟨x1, x2, -⟩ := cwOk_parts (HM.out l[k] (List.getElem_mem hkl))
      have HXB := Lib.hid (cwOk_bits (HM.out l[k] (List.getElem_mem hkl)))
      obtain ⟨x, hx⟩ : ∃ x, l[k] = x := ⟨_, rfl⟩
      rw [hx] at hc0 x1 x2 HXB
      have HX := Lib.hid hx
      have hk0 : (0 : Int) ≤ (k : Int) := by omega
      have hk1 : (k : Int) < (n : Int) := by omega
      clear hc hx
      go_wp2_with fail
      have HE := Lib.hid (HTO.out.enter x)
      obtain ⟨wo, hwo⟩ : ∃ wo, wo = wr := ⟨_, rfl⟩
      rw [← hwo] at HE HTO ⊢
      clear hwo hc0
      go_loopw [4, 7] (fun t nd wr => ∃ pos i g m cap : Nat, ∃ ps : List Bs, pos ≤ x.size ∧ nd = .int .i64 (i : Int) ∧ t = .slice (some ⟨g, 0, none⟩) m cap ∧ TL w wr wo.heap.size g m cap x pos pos ps (pth (l.take k)) i k) (fun _ _ wr => x.size - wr.iterPos wo.heap.size)
      case atStart => exact ⟨0, 0, g, m, cap, ps, Nat.zero_le _, rfl, rfl, HE.out⟩
      case round =>
        clear HE
        obtain ⟨pos, i, g, m, cap, ps, hpos, rfl, rfl, ht⟩ := hrel
        have HT := Lib.hid ht
        clear ht
        by_cases hp : pos < x.size
        · have hcc : x[pos] = 48 ∨ x[pos] = 49 := by
            have := inR_at 48 49 x pos hp HXB.out
            rcases (show x[pos].toNat = 48 ∨ x[pos].toNat = 49 from by omega) with h | h
            · exact .inl (UInt8.toNat_inj.1 (by rw [h]; rfl))
            · exact .inr (UInt8.toNat_inj.1 (by rw [h]; rfl))
          have hasc : (x[pos]'hp).toNat < 128 := by rcases hcc with h | h <;> (rw [h]; decide)
          rcases hcc with hcc | hcc
          · have hnx : ∀ ty, (Instr.next (.pointer (some ⟨wo.heap.size, 0, none⟩)) true ty).run Try.prog wr = .ok (.tuple #[.bool true, .int .i64 pos, .int .i32 48]) (wr.iterAt wo.heap.size x (pos + 1)) := fun ty => by rw [Lib.run_next_ascii_at wr wo.heap.size x pos ty HT.out.it hp hasc, hcc]; rfl
            obtain ⟨W1, hW1⟩ : ∃ W1, W1 = wr.iterAt wo.heap.size x (pos + 1) := ⟨_, rfl⟩
            rw [← hW1] at hnx
            have ht1 := HT.out.next (pos + 1)
            rw [← hW1] at ht1
            have T1 := Lib.hid ht1
            have HEA := Lib.hid (show 3 * i + 0 = i * 3 from by omega)
            have cq := ht1.cell 0 (by decide) 48 (by decide)
            rw [HEA.out] at cq
            have lt1 := ht1.lt
            have i0' : (0 : Int) ≤ (i : Int) := by omega
            have i1' : (i : Int) < (m : Int) := by omega
            clear hW1 ht1 hasc
            by_cases hin : x.data.toList.take pos ++ [48] ∈ ps
            · obtain ⟨j, hj, htj⟩ := T1.out.old hp 48 hcc hin
              rw [hj] at cq
              have TJ := Lib.hid htj
              have s1 : ((j : Int) == -1) = false := beq_f (by omega)
              clear hin hj htj hcc T1
              go_wp2_with fail
              go_roundw
              case rel => exact ⟨pos + 1, j, g, m, cap, ps, by omega, rfl, rfl, TJ.out⟩
              case measure => simp only [World.iterPos, HT.out.it, TJ.out.it]; omega
            · rw [ix_out hin] at cq
              have hst := (T1.out.own.stored (3 * i + 0) (.int .i64 (m : Int))).1
              have hfr := T1.out.own.frozenAt (3 * i + 0)
              have hbg : w.heap.size ≤ g := (T1.out.own.lt g rfl).1
              rw [HEA.out] at hst hfr
              have HST := Lib.hid hst
              have HIN := Lib.hid hin
              have HCC := Lib.hid hcc
              have HBG := Lib.hid hbg
              have hml : m ≤ 193 := by have := T1.out.small; omega
              clear hst hin hcc hbg
              go_wp2_with fail
              refine (emptyNode_any _).mono ?_; rintro e W3 ⟨rfl, hb3⟩
              have HB3 := Lib.hid hb3
              have HO3 := Lib.hid (ownt_below HST.out hb3)
              have HS3 : Hid (w.heap.size ≤ W3.heap.size) := by show _ ≤ _; have := hb3.size; have h2 := T1.out.bel.size; simp [World.setCell] at this; omega
              clear hb3 HST cq hfr hnx
              go_wp2_with (at_builtin; refine wpList_append_lies _ rfl _ _ 79 rfl w.heap.size 86 i0 (.agg #[.int .i64 0, .int .i64 0, .int .i64 0]) 3 24 Try.underlying79 hi hz0 hz1 hz2 rfl (by decide) _ _ _ rfl (World.ownsRow.alloc HO3.out _) ⟨W3.heap.size, 0, none⟩ 1 1 noNode rfl rfl ?c1 ?c2 (by decide) ?c3 ?c4 ?c5 (W3.heap.size + 1) (by simp) ?_)
              case c1 => exact c3_node _ _
              case c2 => intro u hu; simp [noNode] at hu; subst hu; rfl
              case c3 => unfold maxLen; omega
              case c4 => omega
              case c5 => have := HS3.out; simp; omega
              intro g' cap' W4 hown4 hgrow4 hat4 hlt4
              rw [← HEA.out] at hown4
              obtain ⟨ps', ht4, hc4⟩ := TL.new (d := 0) T1.out hp (by decide) 48 (by decide) HCC.out HIN.out (by rw [HEA.out]; exact HB3.out) hown4 hgrow4 hat4
              rw [HEA.out] at hc4
              have T4 := Lib.hid ht4
              have i2' : (i : Int) < ((m + 1 : Nat) : Int) := by omega
              clear hown4 hgrow4 hat4 hlt4 ht4
              go_wp2_with fail
              go_roundw
              case rel => exact ⟨pos + 1, m, g', m + 1, cap', ps', by omega, rfl, rfl, T4.out⟩
              case measure => simp only [World.iterPos, HT.out.it, T4.out.it]; omega
          · have hnx : ∀ ty, (Instr.next (.pointer (some ⟨wo.heap.size, 0, none⟩)) true ty).run Try.prog wr = .ok (.tuple #[.bool true, .int .i64 pos, .int .i32 49]) (wr.iterAt wo.heap.size x (pos + 1)) := fun ty => by rw [Lib.run_next_ascii_at wr wo.heap.size x pos ty HT.out.it hp hasc, hcc]; rfl
            obtain ⟨W1, hW1⟩ : ∃ W1, W1 = wr.iterAt wo.heap.size x (pos + 1) := ⟨_, rfl⟩
            rw [← hW1] at hnx
            have ht1 := HT.out.next (pos + 1)
            rw [← hW1] at ht1
            have T1 := Lib.hid ht1
            have HEA := Lib.hid (show 3 * i + 1 = i * 3 + 1 from by omega)
            have cq := ht1.cell 1 (by decide) 49 (by decide)
            rw [HEA.out] at cq
            have lt1 := ht1.lt
            have i0' : (0 : Int) ≤ (i : Int) := by omega
            have i1' : (i : Int) < (m : Int) := by omega
            clear hW1 ht1 hasc
            by_cases hin : x.data.toList.take pos ++ [49] ∈ ps
            · obtain ⟨j, hj, htj⟩ := T1.out.old hp 49 hcc hin
              rw [hj] at cq
              have TJ := Lib.hid htj
              have s1 : ((j : Int) == -1) = false := beq_f (by omega)
              clear hin hj htj hcc T1
              go_wp2_with fail
              go_roundw
              case rel => exact ⟨pos + 1, j, g, m, cap, ps, by omega, rfl, rfl, TJ.out⟩
              case measure => simp only [World.iterPos, HT.out.it, TJ.out.it]; omega
            · rw [ix_out hin] at cq
              have hst := (T1.out.own.stored (3 * i + 1) (.int .i64 (m : Int))).1
              have hfr := T1.out.own.frozenAt (3 * i + 1)
              have hbg : w.heap.size ≤ g := (T1.out.own.lt g rfl).1
              rw [HEA.out] at hst hfr
              have HST := Lib.hid hst
              have HIN := Lib.hid hin
              have HCC := Lib.hid hcc
              have HBG := Lib.hid hbg
              have hml : m ≤ 193 := by have := T1.out.small; omega
              clear hst hin hcc hbg
              go_wp2_with fail
              refine (emptyNode_any _).mono ?_; rintro e W3 ⟨rfl, hb3⟩
              have HB3 := Lib.hid hb3
              have HO3 := Lib.hid (ownt_below HST.out hb3)
              have HS3 : Hid (w.heap.size ≤ W3.heap.size) := by show _ ≤ _; have := hb3.size; have h2 := T1.out.bel.size; simp [World.setCell] at this; omega
              clear hb3 HST cq hfr hnx
              go_wp2_with (at_builtin; refine wpList_append_lies _ rfl _ _ 79 rfl w.heap.size 86 i0 (.agg #[.int .i64 0, .int .i64 0, .int .i64 0]) 3 24 Try.underlying79 hi hz0 hz1 hz2 rfl (by decide) _ _ _ rfl (World.ownsRow.alloc HO3.out _) ⟨W3.heap.size, 0, none⟩ 1 1 noNode rfl rfl ?c1 ?c2 (by decide) ?c3 ?c4 ?c5 (W3.heap.size + 1) (by simp) ?_)
              case c1 => exact c3_node _ _
              case c2 => intro u hu; simp [noNode] at hu; subst hu; rfl
              case c3 => unfold maxLen; omega
              case c4 => omega
              case c5 => have := HS3.out; simp; omega
              intro g' cap' W4 hown4 hgrow4 hat4 hlt4
              rw [← HEA.out] at hown4
              obtain ⟨ps', ht4, hc4⟩ := TL.new (d := 1) T1.out hp (by decide) 49 (by decide) HCC.out HIN.out (by rw [HEA.out]; exact HB3.out) hown4 hgrow4 hat4
              rw [HEA.out] at hc4
              have T4 := Lib.hid ht4
              have i2' : (i : Int) < ((m + 1 : Nat) : Int) := by omega
              clear hown4 hgrow4 hat4 hlt4 ht4
              go_wp2_with fail
              go_roundw
              case rel => exact ⟨pos + 1, m, g', m + 1, cap', ps', by omega, rfl, rfl, T4.out⟩
              case measure => simp only [World.iterPos, HT.out.it, T4.out.it]; omega
        · have hpe : pos = x.size := by omega
          subst hpe
          have hnx : ∀ ty, (Instr.next (.pointer (some ⟨wo.heap.size, 0, none⟩)) true ty).run Try.prog wr = _ := fun ty => Lib.run_next_end_at wr wo.heap.size x x.size ty HT.out.it hp
          have hfr := HT.out.own.frozenAt (3 * i + 2)
          have cq := HT.out.cell2
          rw [show 3 * i + 2 = i * 3 + 2 from by omega] at hfr cq
          have lt1 := HT.out.lt
          have i0' : (0 : Int) ≤ (i : Int) := by omega
          have i1' : (i : Int) < (m : Int) := by omega
          have HL := Lib.hid (TO.leave (by have := HN.out; omega) HX.out HND.out x2 HT.out)
          rw [show 3 * i + 2 = i * 3 + 2 from by omega] at HL
          go_wp2_with fail
          go_roundw
          case rel => exact ⟨k + 1, g, m, cap, ps, by omega, by go_num, rfl, HL.out⟩
          case measure => simp [intOf]; omega
    · obtain rfl : k = n := by omega
      have HV : Hid (TrieV wr w.heap.size g m cap ps (pth l)) := by
        have e : l.take k = l := List.take_of_length_le (by have := HN.out; omega)
        have h := HTO.out
        show TrieV _ _ _ _ _ _ _
        exact ⟨by rw [← e]; exact h.own, h.len, by rw [← e]; exact h.tr, by rw [← e]; exact h.cov, by have := h.small; omega⟩
      go_wp2_with fail
      go_ret2
      exact ⟨g, m, cap, ps, rfl, HV.out, HTO.out.bel⟩
end Go.Proofs.Ytijmfienaoeboaa
