/- The model's R8Scrambler: a valid scrambler of a width of at most 7. -/
import Derived.Test.YtddlpbpcdjddpaaR8p
import Derived.Test.YtddlpbpcdjddpaaR8b
import Derived.Test.YtddlpbpcdjddpaaSbm
import Derived.Test.YtddlpbpcdjddpaaSc
import Derived.Deep.RegionHeld3
namespace Go.Proofs.Ytddlpbpcdjddpaa
open Go Go.RowKit
set_option linter.unusedVariables false

/-- Taps that draws give: m are still to come. -/
def TpD (l : List Int) (m : Nat) : Prop := l.length + m ≤ 3 ∧ (l ≠ [] ∨ 0 < m) ∧ (∀ z ∈ l, 1 ≤ z ∧ z ≤ 7) ∧ l.Pairwise (· < ·)
theorem TpD.put {l : List Int} {m : Nat} {x : Int} (h : TpD l (m + 1)) (h1 : 1 ≤ x) (h7 : x ≤ 7) : TpD (putF x l) m := by
  refine ⟨by have := putF_len x l; have := h.1; omega, .inl (fun e => ?_), fun z hz => ?_, putF_rise x l h.2.2.2⟩
  · have := (putF_mem x l x).2 (.inl rfl)
    rw [e] at this; cases this
  · rcases (putF_mem x l z).1 hz with rfl | hz
    · exact ⟨h1, h7⟩
    · exact h.2.2.1 z hz
theorem TpD.ok {l : List Int} (h : TpD l 0) : tpOk l = true ∧ wid l ≤ 7 ∧ 1 ≤ wid l := by
  obtain ⟨h1, h2, h3, h4⟩ := h
  have hl : 0 < l.length := by
    rcases h2 with h | h
    · exact List.length_pos_iff.2 h
    · omega
  have hinc : inc l = true := inc_upto fun k hk h0 => (List.pairwise_iff_getElem.1 h4) (k - 1) k (by omega) hk (by omega)
  have htp : tpR l = true := tpR_upto fun k hk => by have := h3 _ (List.getElem_mem hk); omega
  have ht : tpOk l = true := by unfold tpOk; rw [decide_eq_true hl, hinc, htp]; rfl
  have hw := wid_at hl
  have := h3 _ (List.getElem_mem (show l.length - 1 < l.length by omega))
  exact ⟨ht, by omega, by omega⟩
theorem gk_bk {w w1 : World} {b k : Nat} {cs : List Value} (h : Bk w b cs) (hg : w.grownBy w1 (some k)) (hne : b ≠ k) : Bk w1 b cs :=
  ⟨fun i x hx => (World.cell?_of_block (hg.block b h.2.2 (fun e => hne (by injection e)))).trans (h.1 i x hx), fun i hi => (World.frozen?_of_block (hg.block b h.2.2 (fun e => hne (by injection e)))).trans (h.2.1 i hi), Nat.lt_of_lt_of_le h.2.2 hg.size⟩
/-- The whole of what the drawing holds. -/
structure RsI (w : World) (src : Nat) (vc : Value) (lc : List Value) (X : Nat) (v : Value) (st : ByteArray) (L : List Int) (n : Nat) (wr : World) : Prop where
  res : Bk wr w.heap.size [.slice none 0 0, .string ⟨#[]⟩]
  box : Blk wr X 28 [v, .string st]
  own : Own wr src v L
  sr : Src src vc lc src n wr
  bel : Below w.heap.size w wr
  lo1 : w.heap.size < src
  lo2 : src < X
theorem Blk.bk {W : World} {k : Nat} {T : TypeId} {cs : List Value} (h : Blk W k T cs) : Bk W k cs := ⟨fun i x hx => h.cell i x hx, fun i _ => h.frozen i, h.lt⟩
theorem RsI.keep {w wr w2 : World} {src X n : Nat} {vc v : Value} {lc : List Value} {st : ByteArray} {L : List Int} (h : RsI w src vc lc X v st L n wr) (hb : Below wr.heap.size wr w2) : RsI w src vc lc X v st L n w2 :=
  ⟨h.res.keep hb, h.box.keep hb, h.own.keep hb, h.sr.keep hb, h.bel.trans (hb.mono h.bel.size), h.lo1, h.lo2⟩
theorem RsI.pick {w wr w2 : World} {src X n m : Nat} {vc v : Value} {lc : List Value} {st : ByteArray} {L : List Int} (h : RsI w src vc lc X v st L n wr) (hs : Src src vc lc src m w2) (hg : wr.grownBy w2 (some src)) : RsI w src vc lc X v st L m w2 :=
  ⟨gk_bk h.res hg (by have := h.lo1; omega), h.box.grown hg (fun e => by have := h.lo2; injection e with e; omega), gk_own h.own h.sr hg, hs, gk_to h.bel hg h.bel.size (by have := h.lo1; omega), h.lo1, h.lo2⟩
theorem RsI.more {w wr : World} {src X n m : Nat} {vc v : Value} {lc : List Value} {st : ByteArray} {L : List Int} (h : RsI w src vc lc X v st L n wr) (hm : n ≤ m) : RsI w src vc lc X v st L m wr :=
  ⟨h.res, h.box, h.own, h.sr.more hm, h.bel, h.lo1, h.lo2⟩
theorem own_set {wr : World} {base X j : Nat} {v x : Value} {L : List Int} {T : TypeId} {cs : List Value} (h : Own wr base v L) (hk : Blk wr X T cs) (hT : T ≠ 2) : Own (wr.setCell ⟨X, j, none⟩ x) base v L :=
  h.kept (gk_set X j x) (Or.inr (Lib.ownBlock_ne h hk hT))
theorem RsI.putT {w wr : World} {src X n : Nat} {vc v u : Value} {lc : List Value} {st : ByteArray} {L M : List Int} (h : RsI w src vc lc X v st L n wr) (ho : Own wr src u M) : RsI w src vc lc X u st M n (wr.setCell ⟨X, 0, none⟩ u) :=
  ⟨h.res.far _ (by have := h.lo1; have := h.lo2; simp; omega) _, h.box.set 0 u, own_set ho h.box (by decide), h.sr.grown (gk_set X 0 u) (fun j hj => by injection hj with hj; have := h.lo2; omega), h.bel.setCell (by have := h.lo1; have := h.lo2; simp; omega) _, h.lo1, h.lo2⟩
theorem RsI.two {w wr : World} {src X n : Nat} {vc v : Value} {lc : List Value} {st : ByteArray} {L : List Int} (h : RsI w src vc lc X v st L n wr) : wr.cell? ⟨X, 0, none⟩ = some v ∧ wr.cell? ⟨X, 1, none⟩ = some (.string st) := ⟨h.box.cell 0 _ rfl, h.box.cell 1 _ rfl⟩

theorem rows_apart {w : World} {B B' n m : Nat} {e e' : TypeId} {u v : Value} {xs ys : List Value} (h : w.ownsRow B e 1 u n xs) (h2 : w.ownsRow B' e' 1 v m ys) (he : e' ≠ e) : u.ownBlock = none ∨ u.ownBlock ≠ v.ownBlock := by
  rcases h2.2 with ⟨rfl, _⟩ | ⟨g, cap, cur, rfl, _, hg, _⟩
  · cases hu : u.ownBlock with
    | none => exact .inl rfl
    | some k => right; simp [Value.ownBlock]
  · exact .inr (Lib.ownBlock_ne h hg he)
theorem RsI.app {w wr w1 : World} {src X n m : Nat} {vc v r : Value} {lc xs : List Value} {st : ByteArray} {L : List Int} {o : Obj} (h : RsI w src vc lc X v st L n wr) (ho : wr.ownsRow src 5 1 r m xs) (hg : (wr.alloc o).grownBy w1 r.ownBlock) : RsI w src vc lc X v st L n w1 := by
  have hk : Below wr.heap.size wr (wr.alloc o) := (Below.refl _ _).alloc (Nat.le_refl _) o
  have ha := h.keep hk
  have ho' : (wr.alloc o).ownsRow src 5 1 r m xs := ho.alloc o
  refine ⟨?_, ha.box.grown hg (fun e => Lib.ownBlock_ne ho' ha.box (by decide) e), ha.own.kept hg (rows_apart ha.own ho' (by decide)), src_appB h.sr ho hg, ha.bel.grown hg ha.bel.size (fun j hj => by have := (ho'.lt j hj).1; have := h.lo1; omega), h.lo1, h.lo2⟩
  have hne : r.ownBlock ≠ some w.heap.size := fun e => by have := (ho'.lt _ e).1; have := h.lo1; omega
  exact ⟨fun i x hx => (World.cell?_of_block (hg.block _ ha.res.2.2 (fun e => hne e.symm))).trans (ha.res.1 i x hx), fun i hi => (World.frozen?_of_block (hg.block _ ha.res.2.2 (fun e => hne e.symm))).trans (ha.res.2.1 i hi), Nat.lt_of_lt_of_le ha.res.2.2 hg.size⟩
theorem sc_made {L : List Int} {q : List Nat} (ht : tpOk L = true) (hq : bitsN q) (hl : (q.length : Int) = wid L) : scOk L (tx q) = true := by
  unfold scOk isB
  have hw := tpOk_wid ht
  have hin : inR 48 49 (tx q) = true := by
    unfold inR tx
    rw [List.all_eq_true]
    intro c hc
    rw [List.mem_map] at hc
    obtain ⟨x, hx, rfl⟩ := hc
    have := hq x hx
    have h2 := tx_byte this
    exact decide_eq_true (by omega)
  rw [ht, hin, tx_len, decide_eq_true (show q.length ≤ 400 by omega), decide_eq_true hl]
  rfl

set_option maxRecDepth 100000 in
set_option maxHeartbeats 4000000 in
theorem r8Scrambler_any (w : World) (v : Value) (l : List Value) (h : RdV (· < w.heap.size) w v l) (hb : ∀ x ∈ l, ∃ y : Int, x = .int .u8 y ∧ 0 ≤ y ∧ y ≤ 255) :
    Calls Try.prog 26 #[v] w fun e w' => ∃ (u : Value) (s : ByteArray) (L : List Int), e = .returned (.agg #[u, .string s]) ∧ (scOk L s.data.toList = true ∧ wid L ≤ 7) ∧ Own w' w.heap.size u L ∧ Below w.heap.size w w' := by
  obtain ⟨i0, hi, hz0, hz1, hz2⟩ := info_parts Try.infoByte
  obtain ⟨w0, hw0⟩ : ∃ w0, w0 = w.alloc (.cells #[.slice none 0 0, .string ⟨#[]⟩] 28) := ⟨_, rfl⟩
  have HW0 := Lib.hid hw0
  have k0 : Below w.heap.size w w0 := by rw [hw0]; exact (Below.refl _ _).alloc (Nat.le_refl _) _
  have R0 : Hid (Bk w0 w.heap.size [.slice none 0 0, .string ⟨#[]⟩]) := by show Bk _ _ _; rw [hw0]; exact Bk.new w [.slice none 0 0, .string ⟨#[]⟩] _ _ rfl
  have HF := Lib.hid (src_from v l w0 (by
    obtain ⟨A, n, c, e, hn, h1, h2, h3⟩ := h.keep k0
    refine ⟨A, n, c, e, hn, h1, h2, fun h0 => ?_⟩
    obtain ⟨b, o, ea, hK, hlt, hc⟩ := h3 h0
    exact ⟨b, o, ea, hlt, hlt, hc⟩) hb)
  have HK0 := Lib.hid k0
  clear hb k0 hw0
  obtain ⟨A, n, c, rfl, -⟩ := h
  go_enter Try.func26, Try.ntmps26
  go_wp2_with fail
  rw [← HW0.out]
  refine HF.out.mono ?_; rintro e w1 ⟨rfl, hs1, hb1⟩
  have B1 := Lib.hid (HK0.out.trans (hb1.mono HK0.out.size))
  have R1 := Lib.hid (R0.out.keep hb1)
  have S1 := Lib.hid hs1
  have HL : Hid (w.heap.size < w0.heap.size) := R0.out.2.2
  obtain ⟨w2, hw2⟩ : ∃ w2, w2 = (w1.alloc (.cells #[] 2)).alloc (.cells #[.slice (some ⟨w1.heap.size, 0, none⟩) 0 0, .string ⟨#[]⟩] 28) := ⟨_, rfl⟩
  have I2 : Hid (RsI w w0.heap.size (.slice A n c) l (w1.heap.size + 1) (.slice (some ⟨w1.heap.size, 0, none⟩) 0 0) ⟨#[]⟩ [] 0 w2) := by
    show RsI _ _ _ _ _ _ _ _ _ _
    have k2 : Below w1.heap.size w1 w2 := by rw [hw2]; exact ((Below.refl _ _).alloc (Nat.le_refl _) _).alloc (by simp) _
    have hlt := hs1.lt
    refine ⟨R1.out.keep k2, ?_, ?_, hs1.keep k2, B1.out.trans (k2.mono B1.out.size), HL.out, by omega⟩
    · rw [hw2]; exact Blk.new _ [.slice (some ⟨w1.heap.size, 0, none⟩) 0 0, .string ⟨#[]⟩] _ _ (by simp)
    · rw [hw2]
      have := World.ownsRow_made (base := w0.heap.size) (e := 2) (size := 1) w1 #[] 0 (by omega) (by decide) rfl
      exact this.alloc _
  have HW2 := Lib.hid hw2
  clear hs1 hb1 R0 hw2 B1 R1 HF S1 HK0 HW0
  go_wp2_with fail
  rw [← HW2.out]
  generalize w1.heap.size + 1 = X at *
  generalize w0.heap.size = sc at *
  refine (src_pick _ _ _ _ _ 3 _ (by decide) (by decide) I2.out.sr).mono ?_; rintro e w3 ⟨r, rfl, ⟨r0, r1, -⟩, hs3, hg3⟩
  have r2 := r1 (by decide)
  obtain ⟨m0, rfl⟩ : ∃ m0 : Nat, r = (m0 : Int) := ⟨r.toNat, by omega⟩
  have hm0 : m0 ≤ 2 := by omega
  have I3 := Lib.hid (I2.out.pick hs3 hg3)
  clear hs3 hg3 I2 HW2 r0 r1 r2
  go_wp2_with fail
  go_loopw [5] (fun i wr => ∃ (m : Nat) (u : Value) (L : List Int), m ≤ 3 ∧ i = .int .i64 m ∧ TpD L m ∧ RsI w sc (.slice A n c) l X u ⟨#[]⟩ L (20 - 2 * m) wr) (fun i _ => (intOf i).toNat)
  case atStart => exact ⟨m0 + 1, _, [], by omega, by congr 1; omega, ⟨by simp; omega, .inr (by omega), by simp, by simp⟩, I3.out.more (by omega)⟩
  case round =>
    obtain ⟨m, u, L, hm, rfl, htp, hri⟩ := hrel
    have HT := Lib.hid htp
    have HI := Lib.hid hri
    clear htp hri I3
    by_cases hlt : 0 < m
    · obtain ⟨m, rfl⟩ : ∃ m', m = m' + 1 := ⟨m - 1, by omega⟩
      have hlt' : (0 : Int) < ((m + 1 : Nat) : Int) := by omega
      have wm : IntKind.i64.wrap (((m + 1 : Nat) : Int) - 1) = (m : Int) := by rw [IntWalk.i64_in _ (by omega)]; omega
      have hL : L.length ≤ 100000 := by have := HT.out.1; omega
      have t0 := HI.out.keep (Below.refl _ _).drew
      have qa := t0.two.1
      have qf := t0.box.frozen 0
      clear HI
      have HLL := Lib.hid hL
      clear hL
      go_wp2_with fail
      go_region_law (first
          | (go_simp; go_at_call 60; refine (src_pick _ _ _ _ _ 7 _ (by omega) (by decide) t0.sr).mono ?_; rintro e u50 ⟨x, rfl, ⟨x0, x1, -⟩, hs7, hg7⟩; have t7 := t0.pick hs7 hg7; have x2 := x1 (by decide); have wx : IntKind.i64.wrap (1 + x) = 1 + x := IntWalk.i64_in _ (by omega); have qa := t7.two.1; have qf := t7.box.frozen 0; clear hs7 hg7 x1)
          | (go_simp; go_at_call 61; refine (l00Put_any _ _ L (1 + x) t7.own.rd HLL.out).mono ?_; rintro e u51 ⟨u8, rfl, ho8, hb8⟩; obtain ⟨A8, c8, hA8⟩ := own_shape ho8; subst hA8; have t8 := t7.keep hb8; have O8 := Own.base ho8 (Nat.le_of_lt t7.sr.lt); have qa := t8.two.1; have qf := t8.box.frozen 0; clear ho8 hb8)
          | fail)
      all_goals have I8 := Lib.hid (t8.putT O8)
      all_goals have HT8 := Lib.hid (HT.out.put (show 1 ≤ 1 + x by omega) (show 1 + x ≤ 7 by omega))
      all_goals clear t0 t7 t8 O8 qa qf wx
      all_goals go_wp2_with fail
      all_goals go_roundw
      all_goals first
        | exact ⟨m, _, putF (1 + x) L, by omega, by first | rfl | go_num, HT8.out, I8.out.more (by omega)⟩
        | (simp [intOf]; done)
        | (simp [intOf]; omega)
    · obtain rfl : m = 0 := by omega
      rw [show ((0 : Nat) : Int) = 0 from rfl]
      obtain ⟨htp, hw7, hw1⟩ := HT.out.ok
      have HTP := Lib.hid htp
      have hl0 := (tpOk_parts htp).1
      have hwa := wid_at hl0
      have hlen := own_len HI.out.own
      unfold maxLen at hlen
      obtain ⟨g, cc, rfl, hg1, hg2, hc1, hc2⟩ := own_some HI.out.own hl0
      have I9 := Lib.hid (HI.out.keep ((Below.refl _ _).alloc (Nat.le_refl _) (.cells #[] 5)))
      have c1 := I9.out.own.cellAt (L.length - 1) (by omega)
      rw [intVals_at _ _ (by omega), ← hwa] at c1
      obtain ⟨qa, qb⟩ := I9.out.two
      obtain ⟨W, hW⟩ : ∃ W : Nat, wid L = (W : Int) := ⟨(wid L).toNat, by omega⟩
      have HW := Lib.hid hW
      rw [hW] at c1
      have hW7 : W ≤ 7 := by omega
      obtain ⟨len, hln⟩ : ∃ len, len = L.length := ⟨_, rfl⟩
      rw [← hln] at c1 hl0 hlen hc1 qa
      have HLN := Lib.hid hln
      have n1 : IntKind.i64.wrap ((len : Int) - 1) = (len : Int) - 1 := IntWalk.i64_in _ (by omega)
      have n2 : (0 : Int) ≤ (len : Int) - 1 := by omega
      have n3 : (len : Int) - 1 < (len : Int) := by omega
      have n4 : ((len : Int) - 1).toNat = len - 1 := by omega
      have O9 : Hid (OwnN (wr.alloc (.cells #[] 5)) sc (.slice (some ⟨wr.heap.size, 0, none⟩) 0 0) []) := World.ownsRow_made wr #[] 0 (Nat.le_of_lt HI.out.sr.lt) (by decide) rfl
      clear htp hw7 hw1 hwa hW hln HI
      go_wp2_with fail
      go_loopw [6, 7] (fun r i wr => ∃ (j : Nat) (q : List Nat), q.length + j = W ∧ i = .int .i64 j ∧ bitsN q ∧ OwnN wr sc r q ∧ RsI w sc (.slice A n c) l X (.slice (some ⟨g, 0, none⟩) len cc) ⟨#[]⟩ L (60 - 2 * j) wr) (fun _ i _ => (intOf i).toNat)
      case atStart => exact ⟨W, [], by simp, rfl, (fun x hx => by cases hx), O9.out, by rw [HLN.out]; exact I9.out.more (by omega)⟩
      case round =>
        obtain ⟨j, q, hj, rfl, hq, ho, hri⟩ := hrel
        have HQ := Lib.hid hq
        have HO := Lib.hid ho
        have HI := Lib.hid hri
        clear hq ho hri I9 O9 c1 qa qb n1 n2 n3 n4
        by_cases hlt : 0 < j
        · obtain ⟨j, rfl⟩ : ∃ j', j = j' + 1 := ⟨j - 1, by omega⟩
          have hlt' : (0 : Int) < ((j + 1 : Nat) : Int) := by omega
          have hq7 : q.length ≤ 7 := by omega
          go_wp2_with fail
          refine (src_pick _ _ _ _ _ 2 _ (by omega) (by decide) HI.out.sr).mono ?_; rintro e w8 ⟨x, rfl, ⟨x0, x1, -⟩, hs8, hg8⟩
          have x2 := x1 (by decide)
          obtain ⟨x, rfl⟩ := Int.eq_ofNat_of_zero_le x0
          have hx : x ≤ 1 := by omega
          have I8 := Lib.hid (HI.out.pick hs8 hg8)
          have O8 := Lib.hid (gk_ownB (show World.ownsRow _ _ _ _ _ _ _ from HO.out) HI.out.sr hg8)
          have hsz : Hid (sc ≤ w8.heap.size) := Nat.le_of_lt I8.out.sr.lt
          have wu : IntKind.u8.wrap (x : Int) = (x : Int) := IntWalk.u8_in _ (by omega)
          clear hs8 hg8 HI HO x0 x1 x2
          go_wp2_with (at_builtin; refine wpList_append_lies _ rfl _ _ 41 rfl sc 5 i0 (.int .u8 0) 1 1 Try.underlying41 hi hz0 hz1 hz2 rfl (by decide) _ _ _ rfl (World.ownsRow.alloc O8.out _) ⟨w8.heap.size, 0, none⟩ 1 1 [.int .u8 (x : Int)] rfl rfl ?c1 ?c2 (by decide) ?c3 ?c4 ?c5 (w8.heap.size + 1) (by simp) ?_)
          case c1 => exact c1_one _ _ _
          case c2 => intro u hu; simp at hu; subst hu; rfl
          case c3 => unfold maxLen; omega
          case c4 => omega
          case c5 => have := hsz.out; simp; omega
          intro g9 cap9 w9 hown9 hgrow9 hat9 hlt9
          have I9 := Lib.hid (I8.out.app O8.out hgrow9)
          have O9 := Lib.hid (ownN_snoc hown9)
          have Q9 : Hid (bitsN (q ++ [x])) := bitsN_app HQ.out (bitsN_one hx)
          clear hown9 hgrow9 hat9 hlt9 I8 O8
          go_wp2_with fail
          go_roundw
          case rel => exact ⟨j, q ++ [x], by simp; omega, by first | rfl | go_num, Q9.out, O9.out, I9.out.more (by omega)⟩
          case measure => first | (simp [intOf]; done) | (simp [intOf]; omega)
        · obtain rfl : j = 0 := by omega
          have hqW : Hid ((q.length : Int) = wid L) := by show _ = _; rw [HW.out]; omega
          have hq7 : q.length ≤ 4000 := by omega
          obtain ⟨ST, hST⟩ : ∃ ST : ByteArray, ST = ⟨(tx q).toArray⟩ := ⟨_, rfl⟩
          have HSC : Hid (scOk L ST.data.toList = true) := by show _ = _; rw [hST]; exact sc_made HTP.out HQ.out hqW.out
          have HST := Lib.hid hST
          clear hST
          have HW7 : Hid (wid L ≤ 7) := by show _ ≤ _; rw [HW.out]; omega
          go_wp2_with fail
          refine (l06Text_any _ _ q HQ.out hq7 HO.out.rdn).mono ?_; rintro e w8 ⟨rfl, hb8⟩
          have I8 := Lib.hid (HI.out.keep hb8)
          clear hb8 HI HO
          rw [← HST.out]
          have I10 := Lib.hid ((⟨I8.out.res.far _ (by have := I8.out.lo1; have := I8.out.lo2; simp; omega) _, I8.out.box.set 1 (.string ST), own_set I8.out.own I8.out.box (by decide), I8.out.sr.grown (gk_set X 1 (.string ST)) (fun j hj => by injection hj with hj; have := I8.out.lo2; omega), I8.out.bel.setCell (by have := I8.out.lo1; have := I8.out.lo2; simp; omega) _, I8.out.lo1, I8.out.lo2⟩ : RsI w sc (.slice A n c) l X (.slice (some ⟨g, 0, none⟩) len cc) ST L (60 - 2 * 0) (w8.setCell ⟨X, 1, none⟩ (.string ST))))
          have HXN : Hid (X ≠ w.heap.size) := by show _ ≠ _; have := I8.out.lo1; have := I8.out.lo2; omega
          obtain ⟨qa, qb⟩ := I8.out.two
          have qf := I8.out.box.frozen 1
          obtain ⟨ra, rb⟩ := I10.out.two
          have z2 := I10.out.res.c 0 _ rfl
          have z3 := I10.out.res.c 1 _ rfl
          have z4 := I10.out.res.f 0 (by show 0 < 2; omega)
          have z5 := I10.out.res.f 1 (by show 1 < 2; omega)
          clear I8
          go_wp2_with fail
          clear z2 z3 z4 z5 qa qb qf ra rb
          have RS := (I10.out.res.set 0 (by show 0 < 2; omega) (.slice (some ⟨g, 0, none⟩) len cc)).set 1 (by show 1 < 2; omega) (.string ST)
          have z0 := RS.c 0 _ rfl
          have z1 := RS.c 1 _ rfl
          have hlo := I10.out.lo1
          have hne : (Value.slice (some ⟨g, 0, none⟩) len cc).ownBlock ≠ some w.heap.size := fun e => by have := (World.ownsRow.lt I10.out.own _ e).1; omega
          refine bodyPost_ret (v := .agg #[.slice (some ⟨g, 0, none⟩) len cc, .string ST]) (by simp [results, Try.results26, go_sem, z0, z1]) rfl ⟨_, ST, L, rfl, ⟨HSC.out, HW7.out⟩, ?_, ?_⟩
          · exact ((Own.base I10.out.own (Nat.le_of_lt hlo)).kept (gk_set w.heap.size 0 _) (Or.inr hne)).kept (gk_set w.heap.size 1 _) (Or.inr hne)
          · exact (I10.out.bel.setCell (p := ⟨w.heap.size, 0, none⟩) (Nat.le_refl _) _).setCell (p := ⟨w.heap.size, 1, none⟩) (Nat.le_refl _) _
end Go.Proofs.Ytddlpbpcdjddpaa
