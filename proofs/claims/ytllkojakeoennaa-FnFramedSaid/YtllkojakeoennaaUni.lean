/- Both UnstuffBits. -/
import Derived.Test.YtllkojakeoennaaSti
import Derived.Test.YtllkojakeoennaaUnb
import Derived.Test.YtllkojakeoennaaRby
import Derived.Test.YtllkojakeoennaaCvb
namespace Go.Proofs.Ytllkojakeoennaa
open Go Go.RowKit
set_option linter.unusedVariables false

def usOk (a b : Int) (l : List UInt8) : Bool := sOk a b && (isB l && unOk a.toNat (dB b) (oB b) l)
def usV (a b : Int) (l : List UInt8) : ByteArray := if usOk a b l then ⟨(unF a.toNat (dB b) l).1.toArray⟩ else ⟨#[]⟩
theorem usV_no {a b : Int} {l : List UInt8} (h : usOk a b l = false) : usV a b l = ⟨#[]⟩ := by unfold usV; rw [h]; rfl
theorem usV_yes {a b : Int} {l : List UInt8} (h : usOk a b l = true) : usV a b l = ⟨(unF a.toNat (dB b) l).1.toArray⟩ := by unfold usV; rw [h]; rfl

set_option maxRecDepth 100000 in
theorem unstuffBits_spec (w : World) (a b : Int) (s : ByteArray) (hs : s.size ≤ maxLen) :
    Calls Try.prog 19 #[.agg #[.int .i64 a, .int .i64 b], .string s] w fun e w' => e = .returned (.tuple #[.string (usV a b s.data.toList), .bool (usOk a b s.data.toList)]) ∧ Below w.heap.size w w' := by
  have HB : Hid (Below w.heap.size w (w.alloc (.cells #[.int .i64 a, .int .i64 b] 25))) := (Below.refl _ _).alloc (Nat.le_refl _) _
  have HO := Lib.hid (blk_bk (sbl_new w a b))
  have HBI := Lib.hid (fun W => l01Bits_any s W hs)
  cases h1 : sOk a b
  · have e0 : usOk a b s.data.toList = false := by unfold usOk; rw [h1]; rfl
    rw [usV_no e0, e0]
    have H1 := Lib.hid h1
    clear e0 h1 hs
    go_enter Try.func19, Try.ntmps19
    go_wp2_with fail
    refine (l04Is_any _ _ _ _ HO.out).mono ?_; rintro e w' ⟨rfl, rfl⟩
    rw [H1.out]
    go_wp2_with fail
    go_ret2
    exact ⟨rfl, HB.out⟩
  · cases h2 : isB s.data.toList
    · have e0 : usOk a b s.data.toList = false := by unfold usOk; rw [h2]; simp
      rw [usV_no e0, e0]
      rw [h2] at HBI
      have H1 := Lib.hid h1
      clear e0 h1 h2 hs
      go_enter Try.func19, Try.ntmps19
      go_wp2_with fail
      refine (l04Is_any _ _ _ _ HO.out).mono ?_; rintro e w' ⟨rfl, rfl⟩
      rw [H1.out]
      go_wp2_with fail
      refine (HBI.out _).mono ?_; rintro e w' ⟨rfl, rfl⟩
      go_wp2_with fail
      go_ret2
      exact ⟨rfl, HB.out⟩
    · obtain ⟨ha, hb⟩ := sOk_p h1
      obtain ⟨p1, p2⟩ := isBt h2
      obtain ⟨n, rfl⟩ : ∃ n : Nat, a = (n : Int) := ⟨a.toNat, by omega⟩
      have HG := Lib.hid (fun W (q : Nat) (hk : Bk W q (sV n b)) => l04Unstuff_any W q n b _ _ s (dg_of hb) (by omega) (by simpa using p1) p2 hk)
      have e0 : usOk n b s.data.toList = unOk n (dB b) (oB b) s.data.toList := by unfold usOk; rw [h1, h2, Int.toNat_natCast]; rfl
      have ey : usOk n b s.data.toList = true → usV n b s.data.toList = ⟨(unF n (dB b) s.data.toList).1.toArray⟩ := fun h => by rw [usV_yes h, Int.toNat_natCast]
      have en := @usV_no n b s.data.toList
      rw [← e0] at HG
      rw [h2] at HBI
      have H1 := Lib.hid h1
      clear h1 h2 hs ha hb p1 p2 e0
      generalize (⟨(unF n (dB b) s.data.toList).1.toArray⟩ : ByteArray) = X at *
      cases h3 : usOk n b s.data.toList
      · rw [en h3]
        rw [h3] at HG
        clear en ey h3
        go_enter Try.func19, Try.ntmps19
        go_wp2_with fail
        refine (l04Is_any _ _ _ _ HO.out).mono ?_; rintro e w' ⟨rfl, rfl⟩
        rw [H1.out]
        go_wp2_with fail
        refine (HBI.out _).mono ?_; rintro e w' ⟨rfl, rfl⟩
        go_wp2_with fail
        refine (HG.out _ _ HO.out).mono ?_; rintro e w2 ⟨rfl, hb2⟩
        have B2 := Lib.hid (HB.out.trans (hb2.mono HB.out.size))
        clear hb2
        go_wp2_with fail
        go_ret2
        exact ⟨rfl, B2.out⟩
      · rw [ey h3]
        rw [h3] at HG
        clear en ey h3
        go_enter Try.func19, Try.ntmps19
        go_wp2_with fail
        refine (l04Is_any _ _ _ _ HO.out).mono ?_; rintro e w' ⟨rfl, rfl⟩
        rw [H1.out]
        go_wp2_with fail
        refine (HBI.out _).mono ?_; rintro e w' ⟨rfl, rfl⟩
        go_wp2_with fail
        refine (HG.out _ _ HO.out).mono ?_; rintro e w2 ⟨rfl, hb2⟩
        have B2 := Lib.hid (HB.out.trans (hb2.mono HB.out.size))
        clear hb2
        go_wp2_with fail
        go_ret2
        exact ⟨rfl, B2.out⟩

/-- What the program's loop holds: a builder, a watch, the bytes' row, a reader. -/
structure SU (w : World) (sb n : Nat) (b : Int) (M : List UInt8) (r : Nat) (R : List UInt8) (wr : World) : Prop where
  bld : BlR (sb + 4) sb (Lib.byteCells M) wr
  wat : Blk wr (sb + 1) 68 (wV n b r)
  rdr : RdrY (· = sb + 2) wr (sb + 3) (byteVals R)
  sbx : Blk wr w.heap.size 25 (sV n b)
  bel : Below w.heap.size w wr
  low : w.heap.size < sb
  siz : sb + 4 ≤ wr.heap.size
theorem rdrY_gb {K : Nat → Prop} {w w' : World} {b k : Nat} {xs : List Value} (h : RdrY K w b xs) (hg : w.grownBy w' (some k)) (hk : ¬ K k) (hn : k ≠ b) : RdrY K w' b xs := by
  obtain ⟨v, hb, hv⟩ := h
  exact ⟨v, hb.grown hg (by intro e; injection e with e; exact hn e), hv.same (fun j hj hl => hg.block j hl (by intro e; injection e with e; exact hk (by rw [← e]; exact hj))) hg.size⟩
theorem rdrY_chg {K : Nat → Prop} {w w' : World} {b lo k : Nat} {xs : List Value} (h : RdrY K w b xs) (hc : Chg lo k w w') (hK : ∀ j, K j → j < lo ∧ j ≠ k) (hb : b < lo ∧ b ≠ k) : RdrY K w' b xs := by
  obtain ⟨v, hbk, hv⟩ := h
  exact ⟨v, hbk.chg hc hb.1 hb.2, hv.chg hc hK⟩
theorem rdrY_keep {K : Nat → Prop} {w w' : World} {b : Nat} {xs : List Value} (h : RdrY K w b xs) (hb : Below w.heap.size w w') : RdrY K w' b xs := by
  obtain ⟨v, hbk, hv⟩ := h
  exact ⟨v, hbk.keep hb, hv.keep hb⟩
theorem SU.write {w : World} {sb n r : Nat} {b : Int} {M R : List UInt8} {wr w2 : World} (h : SU w sb n b M r R wr) (c : UInt8) (x : Int) (hx : (c.toNat : Int) = x)
    (hb : BlR (sb + 4) sb (Lib.byteCells M ++ [.int .u8 x]) w2) (hc : Chg (sb + 4) sb wr w2) : SU w sb n b (M ++ [c]) r R w2 :=
  have hl := h.low
  ⟨by rw [← bcells_snoc M c x hx]; exact hb, h.wat.chg hc (by omega) (by omega), rdrY_chg h.rdr hc (fun j hj => by subst hj; omega) (by omega), h.sbx.chg hc (by omega) (by omega),
   h.bel.trans (hc.below (by omega) (by omega)), h.low, Nat.le_trans h.siz hc.size⟩
theorem SU.watch {w : World} {sb n r r' : Nat} {b : Int} {M R : List UInt8} {wr w2 : World} (h : SU w sb n b M r R wr)
    (hk : Blk w2 (sb + 1) 68 (wV n b r')) (hg : wr.grownBy w2 (some (sb + 1))) : SU w sb n b M r' R w2 :=
  have hl := h.low
  ⟨h.bld.chg hg (by omega) (by omega), hk, rdrY_gb h.rdr hg (by omega) (by omega), h.sbx.grown hg (by intro e; injection e with e; omega),
   h.bel.grown hg h.bel.size (fun k hk => by injection hk with hk; omega), h.low, Nat.le_trans h.siz hg.size⟩
theorem SU.keep {w : World} {sb n r : Nat} {b : Int} {M R : List UInt8} {wr w2 : World} (h : SU w sb n b M r R wr) (hb : Below wr.heap.size wr w2) : SU w sb n b M r R w2 :=
  ⟨h.bld.keep hb, h.wat.keep hb, rdrY_keep h.rdr hb, h.sbx.keep hb, h.bel.trans (hb.mono h.bel.size), h.low, Nat.le_trans h.siz hb.size⟩
/-- What the reader hands out. -/
def NX (R R' : List UInt8) (dv ok : Value) : Prop := (R = [] ∧ R' = [] ∧ dv = .int .u8 0 ∧ ok = .bool false) ∨ (∃ x : UInt8, R = x :: R' ∧ dv = .int .u8 (x.toNat : Int) ∧ ok = .bool true)
theorem SU.next {w : World} {sb n r : Nat} {b : Int} {M R : List UInt8} {wr : World} (h : SU w sb n b M r R wr) :
    Calls Try.prog 58 #[.pointer (some ⟨sb + 3, 0, none⟩)] wr fun e w' => ∃ dv ok R', e = .returned (.tuple #[dv, ok]) ∧ NX R R' dv ok ∧ SU w sb n b M r R' w' := by
  have hl := h.low
  cases R with
  | nil =>
    refine (nextY_no _ _ _ h.rdr).mono ?_
    rintro e w' ⟨rfl, rfl⟩
    exact ⟨_, _, [], rfl, .inl ⟨rfl, rfl, rfl, rfl⟩, h⟩
  | cons x R' =>
    refine (nextY_yes (· = sb + 2) wr (sb + 3) (x.toNat : Int) (byteVals R') (by omega) h.rdr).mono ?_
    rintro e w' ⟨rfl, u, hu, rfl⟩
    have hg : wr.grownBy (wr.setCell ⟨sb + 3, 0, none⟩ u) (some (sb + 3)) := gb_set (World.grownBy.refl _ _) 0 u
    obtain ⟨v, hb, hv⟩ := h.rdr
    refine ⟨_, _, R', rfl, .inr ⟨x, rfl, rfl, rfl⟩, h.bld.chg hg (by omega) (by omega), h.wat.grown hg (by intro e; injection e with e; omega), ⟨u, hb.set 0 u, hu.set _ _ _ (by omega)⟩, h.sbx.grown hg (by intro e; injection e with e; omega),
      h.bel.grown hg h.bel.size (fun k hk => by injection hk with hk; omega), h.low, Nat.le_trans h.siz hg.size⟩
def WS (w1 o : World) (n : Nat) (b : Int) (s : ByteArray) : World := ((((w1.alloc (.cells #[.pointer none, .slice none 0 0] 66)).alloc (.cells #[.int .i64 n, .int .i64 b, .int .i64 0] 68)).alloc (.cells (rowB o s) 5 (markB o s))).alloc
  (.cells #[.slice (some ⟨w1.heap.size + 1 + 1, 0, none⟩) s.size (capB o s)] 78)).drew
theorem SU.start {w w1 : World} (o : World) {n : Nat} {b : Int} (s : ByteArray) (hs : Blk w1 w.heap.size 25 (sV n b)) (hb : Below w.heap.size w w1) (hsz : s.size ≤ maxLen) :
    SU w w1.heap.size n b [] 0 s.data.toList (WS w1 o n b s) := by
  have A1 := Blk.new w1 [.pointer none, .slice none 0 0] 66 w1.heap.size rfl
  have A2 := Blk.new (w1.alloc (.cells #[.pointer none, .slice none 0 0] 66)) (wV n b 0) 68 (w1.heap.size + 1) (by simp)
  have A3 := rdv_conv ((w1.alloc (.cells #[.pointer none, .slice none 0 0] 66)).alloc (.cells #[.int .i64 n, .int .i64 b, .int .i64 0] 68)) s hsz o
  have A4 := Blk.new (((w1.alloc (.cells #[.pointer none, .slice none 0 0] 66)).alloc (.cells #[.int .i64 n, .int .i64 b, .int .i64 0] 68)).drew.alloc (.cells (rowB o s) 5 (markB o s))) [.slice (some ⟨w1.heap.size + 1 + 1, 0, none⟩) s.size (capB o s)] 78 (w1.heap.size + 3) (by show _ = (Array.push _ _).size; simp)
  have e2 : ((w1.alloc (.cells #[.pointer none, .slice none 0 0] 66)).alloc (.cells #[.int .i64 n, .int .i64 b, .int .i64 0] 68)).heap.size = w1.heap.size + 2 := by simp
  rw [e2] at A3
  have hlt := hs.lt
  have kb : ∀ (W : World) (x : Obj), Below W.heap.size W (W.alloc x) := fun W x => (Below.refl _ _).alloc (Nat.le_refl _) x
  have A5 : RdrY (· = w1.heap.size + 2) (WS w1 o n b s) (w1.heap.size + 3) (byteVals s.data.toList) := ⟨.slice (some ⟨w1.heap.size + 1 + 1, 0, none⟩) s.size (capB o s), A4.drew, A3.keep ((Below.refl _ _).alloc (Nat.le_refl _) (.cells #[.slice (some ⟨w1.heap.size + 1 + 1, 0, none⟩) s.size (capB o s)] 78))⟩
  refine ⟨BlR.start ?_ (by omega), ?_, A5, ?_, ?_, hlt, ?_⟩
  · exact (((A1.alloc _).alloc _).alloc _).drew
  · exact ((A2.alloc _).alloc _).drew
  · exact ((((hs.alloc _).alloc _).alloc _).alloc _).drew
  · exact ((((hb.alloc hb.size _).alloc (by simp; omega) _).alloc (by simp; omega) _).alloc (by simp; omega) _).drew
  · show _ ≤ (Array.push _ _).size; simp
/-- How much is left. -/
def rdLen (w : World) (b : Nat) : Nat := match w.cell? ⟨b, 0, none⟩ with | some (.slice _ n _) => n | _ => 0
def okN (v : Value) : Nat := match v with | .bool true => 1 | _ => 0
theorem SU.left {w : World} {sb n r : Nat} {b : Int} {M R R' : List UInt8} {wr : World} {dv ok : Value} (h : SU w sb n b M r R' wr) (hn : NX R R' dv ok) : rdLen wr (sb + 3) + okN ok = R.length := by
  obtain ⟨v, hb, hv⟩ := h.rdr
  obtain ⟨A, c, rfl, -⟩ := hv.sh
  unfold rdLen
  rw [hb.cell 0 _ rfl]
  simp only [byteVals_length]
  rcases hn with ⟨rfl, rfl, rfl, rfl⟩ | ⟨x, rfl, rfl, rfl⟩
  · rfl
  · simp [okN]

set_option maxRecDepth 100000 in
set_option maxHeartbeats 4000000 in
theorem unstuffBits_impl (w : World) (a b : Int) (s : ByteArray) (hs : s.size ≤ maxLen) :
    Calls Try.prog 20 #[.agg #[.int .i64 a, .int .i64 b], .string s] w fun e w' => e = .returned (.tuple #[.string (usV a b s.data.toList), .bool (usOk a b s.data.toList)]) ∧ Below w.heap.size w w' := by
  have HB : Hid (Below w.heap.size w (w.alloc (.cells #[.int .i64 a, .int .i64 b] 25))) := (Below.refl _ _).alloc (Nat.le_refl _) _
  have HO := Lib.hid (sbl_new w a b)
  have HBI := Lib.hid (fun W => isBits_any s W hs)
  cases h1 : sOk a b
  · have e0 : usOk a b s.data.toList = false := by unfold usOk; rw [h1]; rfl
    rw [usV_no e0, e0]
    have H1 := Lib.hid h1
    clear e0 h1 hs
    go_enter Try.func20, Try.ntmps20
    go_wp2_with fail
    refine (validStuffer_impl _ _ _).mono ?_; rintro e w1 ⟨rfl, hb1⟩
    have B1 := Lib.hid (HB.out.trans (hb1.mono HB.out.size))
    clear hb1
    rw [H1.out]
    go_wp2_with fail
    go_ret2
    exact ⟨rfl, B1.out⟩
  · cases h2 : isB s.data.toList
    · have e0 : usOk a b s.data.toList = false := by unfold usOk; rw [h2]; simp
      rw [usV_no e0, e0]
      rw [h2] at HBI
      have H1 := Lib.hid h1
      clear e0 h1 h2 hs
      go_enter Try.func20, Try.ntmps20
      go_wp2_with fail
      refine (validStuffer_impl _ _ _).mono ?_; rintro e w1 ⟨rfl, hb1⟩
      have B1 := Lib.hid (HB.out.trans (hb1.mono HB.out.size))
      clear hb1
      rw [H1.out]
      go_wp2_with fail
      refine (HBI.out _).mono ?_; rintro e w2 ⟨rfl, hb2⟩
      have B2 := Lib.hid (B1.out.trans (hb2.mono B1.out.size))
      clear hb2
      go_wp2_with fail
      go_ret2
      exact ⟨rfl, B2.out⟩
    · obtain ⟨ha, hb⟩ := sOk_p h1
      obtain ⟨p1, p2⟩ := isBt h2
      obtain ⟨n, rfl⟩ : ∃ n : Nat, a = (n : Int) := ⟨a.toNat, by omega⟩
      have HDG := Lib.hid (dg_of hb)
      have hsz : s.size ≤ 400 := by simpa using p1
      obtain ⟨n1, n2⟩ : 1 ≤ n ∧ n ≤ 10 := by omega
      have HVN := Lib.hid (@usV_no n b s.data.toList)
      have HVY : Hid (usOk n b s.data.toList = true → usV n b s.data.toList = ⟨(unF n (dB b) s.data.toList).1.toArray⟩) := fun h => by rw [usV_yes h, Int.toNat_natCast]
      have HE0 : Hid (usOk n b s.data.toList = unOk n (dB b) (oB b) s.data.toList) := by show _ = _; unfold usOk; rw [h1, h2, Int.toNat_natCast]; rfl
      have HSL : Hid (s.data.toList.length ≤ 400) := p1
      have hs0 := Lib.hid hs
      rw [h2] at HBI
      have H1 := Lib.hid h1
      clear h1 h2 hs ha hb p1 p2
      generalize usV n b s.data.toList = VV at *
      generalize usOk n b s.data.toList = OK at *
      generalize dB b = d at *
      generalize oB b = o at *
      have hcv := fun W => convB W s
      go_enter Try.func20, Try.ntmps20
      go_wp2_with fail
      refine (validStuffer_impl _ _ _).mono ?_; rintro e w0 ⟨rfl, hb0⟩
      have B0 := Lib.hid (HB.out.trans (hb0.mono HB.out.size))
      have O0 := Lib.hid (HO.out.keep hb0)
      clear hb0 HO HB
      rw [H1.out]
      obtain ⟨q0, q1⟩ := sbl_two O0.out
      go_wp2_with fail
      refine (HBI.out _).mono ?_; rintro e w1 ⟨rfl, hb1⟩
      have B1 := Lib.hid (B0.out.trans (hb1.mono B0.out.size))
      have O1 := Lib.hid (O0.out.keep hb1)
      clear hb1 q0 q1 B0 O0
      have hlt0 : w.heap.size < w1.heap.size := O1.out.lt
      obtain ⟨q0, q1⟩ := sbl_two O1.out
      have SU0 := Lib.hid (fun o => SU.start o s O1.out B1.out hs0.out)
      go_wp2_with fail
      refine (SU.next (SU0.out _)).mono ?_; rintro e w2 ⟨dv0, ok0, R0, rfl, hn0, hu0⟩
      have N0 := Lib.hid hn0
      have U0 := Lib.hid hu0
      clear hn0 hu0 q0 q1
      go_wp2_with fail
      go_loopw [9, 10] (fun dv ok wr => ∃ (pre R R' M : List UInt8) (r : Nat), s.data.toList = pre ++ R ∧ upTo n d o pre M r ∧ NX R R' dv ok ∧ SU w w1.heap.size n b M r R' wr) (fun _ ok wr => rdLen wr (w1.heap.size + 3) + okN ok)
      case atStart => exact ⟨[], s.data.toList, R0, [], 0, rfl, upTo_nil n d o n1, N0.out, U0.out⟩
      case round =>
        clear N0 U0
        obtain ⟨pre, R, R', M, r, hl, hup, hnx, hsu⟩ := hrel
        have HSL2 := Lib.hid hl
        have hms := hsu.left hnx
        have hML : M.length ≤ 400 := by
          have h1 := unF_len n d pre
          rw [hup.1] at h1
          have h2 := HSL.out
          rw [hl, List.length_append] at h2
          simp only at h1; omega
        have HUP := Lib.hid hup
        have HSU := Lib.hid hsu
        have hrn : r < n := hup.2.2
        have HMS := Lib.hid hms
        clear hl hup hsu hms
        rcases hnx with ⟨rfl, rfl, rfl, rfl⟩ | ⟨x, rfl, rfl, rfl⟩
        · have he := upTo_end HUP.out
          have hpre : s.data.toList = pre := by have := HSL2.out; rwa [List.append_nil] at this
          have e2 : OK = true := by rw [HE0.out, hpre]; exact he.1
          have e4 := HVY.out e2
          rw [hpre, he.2] at e4
          have HZ := Lib.hid (And.intro e4 e2)
          have hbs := HSU.out.siz
          clear he hpre e2 e4
          go_wp2_with fail
          refine (Go.Proofs.Try.Builder_String_any _ _ _ _ HSU.out.bld.isB (by omega)).mono ?_; rintro e w6 ⟨rfl, hb6⟩
          have B6 := Lib.hid (HSU.out.bel.trans (hb6.mono (by have := HSU.out.low; omega)))
          clear hb6
          go_wp2_with fail
          go_ret2
          exact ⟨by (rw [HZ.out.1, HZ.out.2]) <;> rfl, B6.out⟩
        · obtain ⟨X, hX⟩ : ∃ X : Int, (x.toNat : Int) = X := ⟨_, rfl⟩
          have HX := Lib.hid hX
          rw [hX]
          clear hX
          have hbs := HSU.out.siz
          go_wp2_with fail
          refine (blr_b _ _ _ X _ HSU.out.bld (by rw [bcells_len]; omega) hbs).mono ?_; rintro e w3 ⟨rfl, hbl, hch⟩
          have S3 := Lib.hid (HSU.out.write x X HX.out hbl hch)
          clear hbl hch
          go_wp2_with fail
          by_cases hxd : x = d
          · by_cases hr : r + 1 = n
            · refine (full_full _ _ n r b d o X HDG.out n2 hrn (by rw [← HX.out, hxd]) hr S3.out.wat).mono ?_; rintro e w4 ⟨rfl, hk4, hg4⟩
              have S4 := Lib.hid (S3.out.watch hk4 hg4)
              clear hk4 hg4 S3
              go_wp2_with fail
              refine (SU.next S4.out).mono ?_; rintro e w5 ⟨dv2, ok2, R2, rfl, hn2, hu2⟩
              have S5 := Lib.hid hu2
              clear hu2 S4
              obtain ⟨q0, q1⟩ := sbl_two S5.out.sbx
              obtain ⟨Y, hY⟩ : ∃ Y : Int, (o.toNat : Int) = Y := ⟨_, rfl⟩
              have HOP := Lib.hid (fun W => opposite_any n b d o HDG.out Y hY W)
              have HY := Lib.hid hY
              have hY0 : 0 < Y := by rw [← hY]; rcases HDG.out with ⟨_, _, rfl⟩ | ⟨_, _, rfl⟩ <;> decide
              clear hY
              rcases hn2 with ⟨rfl, rfl, rfl, rfl⟩ | ⟨y, rfl, rfl, rfl⟩
              · have hz : ((0 : Int) != Y) = true := bne_t (by omega)
                have e2 : OK = false := by
                  have h1 := upTo_short HUP.out (by omega)
                  rw [HE0.out, HSL2.out, hxd]; exact h1
                have e4 := HVN.out e2
                have HZ := Lib.hid (And.intro e4 e2)
                clear e2 e4
                go_wp2_with fail
                refine (HOP.out _).mono ?_; rintro e w6 ⟨rfl, hb6⟩
                have B6 := Lib.hid (S5.out.bel.trans (hb6.mono S5.out.bel.size))
                clear hb6
                go_wp2_with fail
                go_ret2
                exact ⟨by (rw [HZ.out.1, HZ.out.2]) <;> rfl, B6.out⟩
              · obtain ⟨Z, hZ⟩ : ∃ Z : Int, (y.toNat : Int) = Z := ⟨_, rfl⟩
                have HZZ := Lib.hid hZ
                rw [hZ]
                clear hZ
                by_cases hyo : y = o
                · have hz : (Z != Y) = false := bne_f (by rw [← HZZ.out, ← HY.out, hyo])
                  go_wp2_with fail
                  refine (HOP.out _).mono ?_; rintro e w6 ⟨rfl, hb6⟩
                  have S6 := Lib.hid (S5.out.keep hb6)
                  clear hb6 S5
                  go_wp2_with fail
                  refine (SU.next S6.out).mono ?_; rintro e w7 ⟨dv3, ok3, R3, rfl, hn3, hu3⟩
                  have N7 := Lib.hid hn3
                  have S7 := Lib.hid hu3
                  clear hn3 hu3
                  go_wp2_with fail
                  go_roundw
                  case rel => exact ⟨pre ++ [d, o], R2, R3, M ++ [x], 0, by rw [HSL2.out, hxd, hyo]; simp, by rw [hxd]; exact upTo_further HUP.out n1 (by omega), N7.out, S7.out⟩
                  case measure =>
                    have h1 := S7.out.left N7.out
                    have h2 := HMS.out
                    simp at h1 h2 ⊢; omega
                · have hz : (Z != Y) = true := bne_t (by rw [← HZZ.out, ← HY.out]; intro e; exact hyo (UInt8.toNat_inj.1 (by omega)))
                  have e2 : OK = false := by
                    have h1 := upTo_wrong HUP.out (by omega) y hyo R2
                    rw [HE0.out, HSL2.out, hxd, show pre ++ d :: y :: R2 = pre ++ [d, y] ++ R2 from by simp]; exact h1
                  have e4 := HVN.out e2
                  have HZ := Lib.hid (And.intro e4 e2)
                  clear e2 e4
                  go_wp2_with fail
                  refine (HOP.out _).mono ?_; rintro e w6 ⟨rfl, hb6⟩
                  have B6 := Lib.hid (S5.out.bel.trans (hb6.mono S5.out.bel.size))
                  clear hb6
                  go_wp2_with fail
                  go_ret2
                  exact ⟨by (rw [HZ.out.1, HZ.out.2]) <;> rfl, B6.out⟩
            · refine (full_digit _ _ n r b d o X HDG.out n2 hrn (by rw [← HX.out, hxd]) hr S3.out.wat).mono ?_; rintro e w4 ⟨rfl, hk4, hg4⟩
              have S4 := Lib.hid (S3.out.watch hk4 hg4)
              clear hk4 hg4 S3
              go_wp2_with fail
              refine (SU.next S4.out).mono ?_; rintro e w7 ⟨dv3, ok3, R3, rfl, hn3, hu3⟩
              have N7 := Lib.hid hn3
              have S7 := Lib.hid hu3
              clear hn3 hu3
              go_wp2_with fail
              go_roundw
              case rel => exact ⟨pre ++ [x], R', R3, M ++ [x], r + 1, by rw [HSL2.out]; simp, by rw [hxd]; exact upTo_digit HUP.out (by omega), N7.out, S7.out⟩
              case measure =>
                have h1 := S7.out.left N7.out
                have h2 := HMS.out
                simp at h1 h2 ⊢; omega
          · refine (full_other _ _ n r b d o X HDG.out n2 hrn (by rw [← HX.out]; intro e; exact hxd (UInt8.toNat_inj.1 (by omega))) S3.out.wat).mono ?_; rintro e w4 ⟨rfl, hk4, hg4⟩
            have S4 := Lib.hid (S3.out.watch hk4 hg4)
            clear hk4 hg4 S3
            go_wp2_with fail
            refine (SU.next S4.out).mono ?_; rintro e w7 ⟨dv3, ok3, R3, rfl, hn3, hu3⟩
            have N7 := Lib.hid hn3
            have S7 := Lib.hid hu3
            clear hn3 hu3
            go_wp2_with fail
            go_roundw
            case rel => exact ⟨pre ++ [x], R', R3, M ++ [x], 0, by rw [HSL2.out]; simp, upTo_other HUP.out n1 x hxd, N7.out, S7.out⟩
            case measure =>
              have h1 := S7.out.left N7.out
              have h2 := HMS.out
              simp at h1 h2 ⊢; omega
end Go.Proofs.Ytllkojakeoennaa