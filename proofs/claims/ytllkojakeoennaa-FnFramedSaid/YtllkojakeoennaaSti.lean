/- Both StuffBits. -/
import Derived.Test.YtllkojakeoennaaStb
import Derived.Test.YtllkojakeoennaaWch
import Derived.Test.YtllkojakeoennaaBits
import Derived.Test.YtllkojakeoennaaShelf
namespace Go.Proofs.Ytllkojakeoennaa
open Go Go.RowKit
set_option linter.unusedVariables false

def stL (a b : Int) (l : List UInt8) : List UInt8 := (stF a.toNat (dB b) (oB b) l).1
def stOk (a b : Int) (l : List UInt8) : Bool := sOk a b && (isB l && decide ((stL a b l).length ≤ 400))
def stV (a b : Int) (l : List UInt8) : ByteArray := if stOk a b l then ⟨(stL a b l).toArray⟩ else ⟨#[]⟩
theorem stV_no {a b : Int} {l : List UInt8} (h : stOk a b l = false) : stV a b l = ⟨#[]⟩ := by unfold stV; rw [h]; rfl
theorem stV_yes {a b : Int} {l : List UInt8} (h : stOk a b l = true) : stV a b l = ⟨(stL a b l).toArray⟩ := by unfold stV; rw [h]; rfl
theorem isBt {l : List UInt8} (h : isB l = true) : l.length ≤ 400 ∧ inR 48 49 l = true := by
  unfold isB at h
  have h' := Bool.and_eq_true_iff.1 h
  exact ⟨of_decide_eq_true h'.1, h'.2⟩
theorem sOk_p {a b : Int} (h : sOk a b = true) : (1 ≤ a ∧ a ≤ 10) ∧ (0 ≤ b ∧ b ≤ 1) := of_decide_eq_true h
theorem bcells_snoc (M : List UInt8) (c : UInt8) (x : Int) (hx : (c.toNat : Int) = x) : Lib.byteCells M ++ [.int .u8 x] = Lib.byteCells (M ++ [c]) := by simp [Lib.byteCells, ← hx]
theorem bcells_len (M : List UInt8) : (Lib.byteCells M).length = M.length := by simp [Lib.byteCells]
/-- The stuffer's box, as a block. -/
theorem sbl_new (w : World) (a b : Int) : Blk (w.alloc (.cells #[.int .i64 a, .int .i64 b] 25)) w.heap.size 25 (sV a b) := Blk.new w (sV a b) _ _ rfl
theorem sbl_two {W : World} {k : Nat} {a b : Int} (h : Blk W k 25 (sV a b)) : W.cell? ⟨k, 0, none⟩ = some (.int .i64 a) ∧ W.cell? ⟨k, 1, none⟩ = some (.int .i64 b) := ⟨h.cell 0 _ rfl, h.cell 1 _ rfl⟩
theorem blk_bk {W : World} {k : Nat} {T : TypeId} {cs : List Value} (h : Blk W k T cs) : Bk W k cs := ⟨fun i x hx => h.cell i x hx, fun i _ => h.frozen i, h.lt⟩

set_option maxRecDepth 100000 in
theorem stuffBits_spec (w : World) (a b : Int) (s : ByteArray) (hs : s.size ≤ maxLen) :
    Calls Try.prog 17 #[.agg #[.int .i64 a, .int .i64 b], .string s] w fun e w' => e = .returned (.tuple #[.string (stV a b s.data.toList), .bool (stOk a b s.data.toList)]) ∧ Below w.heap.size w w' := by
  have HB : Hid (Below w.heap.size w (w.alloc (.cells #[.int .i64 a, .int .i64 b] 25))) := (Below.refl _ _).alloc (Nat.le_refl _) _
  have HO := Lib.hid (blk_bk (sbl_new w a b))
  have HBI := Lib.hid (fun W => l01Bits_any s W hs)
  cases h1 : sOk a b
  · have e0 : stOk a b s.data.toList = false := by unfold stOk; rw [h1]; rfl
    rw [stV_no e0, e0]
    have H1 := Lib.hid h1
    clear e0 h1 hs
    go_enter Try.func17, Try.ntmps17
    go_wp2_with fail
    refine (l04Is_any _ _ _ _ HO.out).mono ?_; rintro e w' ⟨rfl, rfl⟩
    rw [H1.out]
    go_wp2_with fail
    go_ret2
    exact ⟨rfl, HB.out⟩
  · cases h2 : isB s.data.toList
    · have e0 : stOk a b s.data.toList = false := by unfold stOk; rw [h2]; simp
      rw [stV_no e0, e0]
      rw [h2] at HBI
      have H1 := Lib.hid h1
      clear e0 h1 h2 hs
      go_enter Try.func17, Try.ntmps17
      go_wp2_with fail
      refine (l04Is_any _ _ _ _ HO.out).mono ?_; rintro e w' ⟨rfl, rfl⟩
      rw [H1.out]
      go_wp2_with fail
      refine (HBI.out _).mono ?_; rintro e w' ⟨rfl, rfl⟩
      go_wp2_with fail
      go_ret2
      exact ⟨rfl, HB.out⟩
    · obtain ⟨ha, hb⟩ := sOk_p h1
      obtain ⟨p1, p2⟩ := isBt h2
      obtain ⟨n, rfl⟩ : ∃ n : Nat, a = (n : Int) := ⟨a.toNat, by omega⟩
      have HG := Lib.hid (fun W (q : Nat) (hk : Bk W q (sV n b)) => l04Stuff_any W q n b _ _ s (dg_of hb) (by omega) (by simpa using p1) p2 hk)
      have e1 : (stF n (dB b) (oB b) s.data.toList).1 = stL n b s.data.toList := by unfold stL; rw [Int.toNat_natCast]
      rw [e1] at HG
      have e0 : stOk n b s.data.toList = decide ((stL n b s.data.toList).length ≤ 400) := by unfold stOk; rw [h1, h2]; rfl
      rw [h2] at HBI
      have hlen : (stL n b s.data.toList).length ≤ 800 := by have := (stF_len (n : Int).toNat (dB b) (oB b) s.data.toList).2; unfold stL; omega
      have H1 := Lib.hid h1
      clear h1 h2 hs ha hb p1 p2 e1
      by_cases h3 : (stL n b s.data.toList).length ≤ 400
      · have e2 : stOk n b s.data.toList = true := by rw [e0]; exact decide_eq_true h3
        rw [stV_yes e2, e2]
        clear e0 e2
        obtain ⟨X, hX⟩ : ∃ X : ByteArray, X = ⟨(stL n b s.data.toList).toArray⟩ := ⟨_, rfl⟩
        rw [← hX] at HG ⊢
        have hsz : X.size ≤ 400 := by rw [hX]; simpa [ByteArray.size] using h3
        have h4 : ¬ (400 : Int) < (X.size : Int) := by omega
        clear h3 hlen hX
        go_enter Try.func17, Try.ntmps17
        go_wp2_with fail
        refine (l04Is_any _ _ _ _ HO.out).mono ?_; rintro e w' ⟨rfl, rfl⟩
        rw [H1.out]
        go_wp2_with fail
        refine (HBI.out _).mono ?_; rintro e w' ⟨rfl, rfl⟩
        go_wp2_with fail
        refine (HG.out _ _ HO.out).mono ?_; rintro e w2 ⟨rfl, hb2⟩
        have B2 := Lib.hid (HB.out.trans (hb2.mono HB.out.size))
        clear hb2
        go_wp2_with fail
        go_ret2
        exact ⟨rfl, B2.out⟩
      · have e2 : stOk n b s.data.toList = false := by rw [e0]; exact decide_eq_false h3
        rw [stV_no e2, e2]
        clear e0 e2
        obtain ⟨X, hX⟩ : ∃ X : ByteArray, X = ⟨(stL n b s.data.toList).toArray⟩ := ⟨_, rfl⟩
        rw [← hX] at HG
        have hsz : X.size ≤ 800 ∧ ¬ X.size ≤ 400 := by rw [hX]; simp only [ByteArray.size, List.size_toArray]; exact ⟨hlen, h3⟩
        have h4 : (400 : Int) < (X.size : Int) := by omega
        clear h3 hlen hX
        go_enter Try.func17, Try.ntmps17
        go_wp2_with fail
        refine (l04Is_any _ _ _ _ HO.out).mono ?_; rintro e w' ⟨rfl, rfl⟩
        rw [H1.out]
        go_wp2_with fail
        refine (HBI.out _).mono ?_; rintro e w' ⟨rfl, rfl⟩
        go_wp2_with fail
        refine (HG.out _ _ HO.out).mono ?_; rintro e w2 ⟨rfl, hb2⟩
        have B2 := Lib.hid (HB.out.trans (hb2.mono HB.out.size))
        clear hb2
        go_wp2_with fail
        go_ret2
        exact ⟨rfl, B2.out⟩

/-- What the program's loop holds. -/
structure SI (w w1 : World) (n : Nat) (b : Int) (M : List UInt8) (r : Nat) (wr : World) : Prop where
  bld : Lib.IsBuilder 66 5 w1.heap.size w1.heap.size (Lib.byteCells M) wr
  wat : Blk wr (w1.heap.size + 1) 68 (wV n b r)
  sbx : Blk wr w.heap.size 25 (sV n b)
  bel : Below w1.heap.size w1 wr
theorem SI.write {w w1 : World} {n r : Nat} {b : Int} {M : List UInt8} {wr w2 : World} (h : SI w w1 n b M r wr) (hs : w.heap.size < w1.heap.size) (c : UInt8) (x : Int) (hx : (c.toNat : Int) = x)
    (hb : Lib.IsBuilder 66 5 w1.heap.size w1.heap.size (Lib.byteCells M ++ [.int .u8 x]) w2) (hw : Below w1.heap.size wr w2) (hr : Wr 5 w1.heap.size wr w2) : SI w w1 n b (M ++ [c]) r w2 :=
  ⟨by rw [← bcells_snoc M c x hx]; exact hb, h.wat.wr hr (by decide) (by omega), h.sbx.wr hr (by decide) (by omega), h.bel.trans hw⟩
theorem SI.watch {w w1 : World} {n r r' : Nat} {b : Int} {M : List UInt8} {wr w2 : World} (h : SI w w1 n b M r wr) (hs : w.heap.size < w1.heap.size)
    (hk : Blk w2 (w1.heap.size + 1) 68 (wV n b r')) (hg : wr.grownBy w2 (some (w1.heap.size + 1))) : SI w w1 n b M r' w2 :=
  ⟨isBl_grown h.bld hg h.wat (by decide) (by omega), hk, h.sbx.grown hg (by intro e; injection e with e; omega), h.bel.grown hg h.bel.size (fun k hk => by injection hk with hk; omega)⟩
theorem SI.keep {w w1 : World} {n r : Nat} {b : Int} {M : List UInt8} {wr w2 : World} (h : SI w w1 n b M r wr) (hb : Below wr.heap.size wr w2) : SI w w1 n b M r w2 :=
  ⟨isBl_keep h.bld hb, h.wat.keep hb, h.sbx.keep hb, h.bel.trans (hb.mono h.bel.size)⟩
theorem SI.start {w w1 : World} {n : Nat} {b : Int} (hs : Blk w1 w.heap.size 25 (sV n b)) :
    SI w w1 n b [] 0 ((w1.alloc (.cells #[.pointer none, .slice none 0 0] 66)).alloc (.cells #[.int .i64 n, .int .i64 b, .int .i64 0] 68)) := by
  have kb : Below w1.heap.size w1 (w1.alloc (.cells #[.pointer none, .slice none 0 0] 66)) := (Below.refl _ _).alloc (Nat.le_refl _) _
  have kb2 : Below (w1.alloc (.cells #[.pointer none, .slice none 0 0] 66)).heap.size (w1.alloc (.cells #[.pointer none, .slice none 0 0] 66)) ((w1.alloc (.cells #[.pointer none, .slice none 0 0] 66)).alloc (.cells #[.int .i64 n, .int .i64 b, .int .i64 0] 68)) := (Below.refl _ _).alloc (Nat.le_refl _) _
  refine ⟨isBl_keep (Lib.fresh_isBuilder _ _ w1) kb2, ?_, (hs.keep kb).keep kb2, kb.trans (kb2.mono kb.size)⟩
  exact Blk.new _ (wV n b 0) _ _ (by simp)

set_option maxRecDepth 100000 in
set_option maxHeartbeats 4000000 in
theorem stuffBits_impl (w : World) (a b : Int) (s : ByteArray) (hs : s.size ≤ maxLen) :
    Calls Try.prog 18 #[.agg #[.int .i64 a, .int .i64 b], .string s] w fun e w' => e = .returned (.tuple #[.string (stV a b s.data.toList), .bool (stOk a b s.data.toList)]) ∧ Below w.heap.size w w' := by
  have HB : Hid (Below w.heap.size w (w.alloc (.cells #[.int .i64 a, .int .i64 b] 25))) := (Below.refl _ _).alloc (Nat.le_refl _) _
  have HO := Lib.hid (sbl_new w a b)
  have HBI := Lib.hid (fun W => isBits_any s W hs)
  cases h1 : sOk a b
  · have e0 : stOk a b s.data.toList = false := by unfold stOk; rw [h1]; rfl
    rw [stV_no e0, e0]
    have H1 := Lib.hid h1
    clear e0 h1 hs
    go_enter Try.func18, Try.ntmps18
    go_wp2_with fail
    refine (validStuffer_impl _ _ _).mono ?_; rintro e w1 ⟨rfl, hb1⟩
    have B1 := Lib.hid (HB.out.trans (hb1.mono HB.out.size))
    clear hb1
    rw [H1.out]
    go_wp2_with fail
    go_ret2
    exact ⟨rfl, B1.out⟩
  · cases h2 : isB s.data.toList
    · have e0 : stOk a b s.data.toList = false := by unfold stOk; rw [h2]; simp
      rw [stV_no e0, e0]
      rw [h2] at HBI
      have H1 := Lib.hid h1
      clear e0 h1 h2 hs
      go_enter Try.func18, Try.ntmps18
      go_wp2_with fail
      refine (validStuffer_impl _ _ _).mono ?_; rintro e w1 ⟨rfl, hb1⟩
      have B1 := Lib.hid (HB.out.trans (hb1.mono HB.out.size))
      clear hb1
      rw [H1.out]
      go_wp2_with fail
      refine (HBI.out _).mono ?_; rintro e w2 ⟨rfl, hb2⟩
      have B2 := Lib.hid (B1.out.trans (hb2.mono B1.out.size))
      clear hb2
      go_wp2_with fail
      go_ret2
      exact ⟨rfl, B2.out⟩
    · obtain ⟨ha, hb⟩ := sOk_p h1
      obtain ⟨p1, p2⟩ := isBt h2
      obtain ⟨n, rfl⟩ : ∃ n : Nat, a = (n : Int) := ⟨a.toNat, by omega⟩
      have HDG := Lib.hid (dg_of hb)
      have HIN := Lib.hid p2
      have hsz : s.size ≤ 400 := by simpa using p1
      obtain ⟨n1, n2⟩ : 1 ≤ n ∧ n ≤ 10 := by omega
      have HL := Lib.hid (fun k => stF_len n (dB b) (oB b) (s.data.toList.take k))
      have HST := Lib.hid (fun k hk => stF_take n (dB b) (oB b) s k hk)
      have HRUN := Lib.hid (fun k => stF_run n (dB b) (oB b) n1 (s.data.toList.take k))
      have HALL := Lib.hid (fun k hk => take_all s k hk)
      have HE0 : Hid (stOk n b s.data.toList = decide ((stF n (dB b) (oB b) s.data.toList).1.length ≤ 400)) := by show _ = _; unfold stOk stL; rw [h1, h2, Int.toNat_natCast]; rfl
      have HE1 : Hid (stL n b s.data.toList = (stF n (dB b) (oB b) s.data.toList).1) := by show _ = _; unfold stL; rw [Int.toNat_natCast]
      have HVN := Lib.hid (@stV_no n b s.data.toList)
      have HVY := Lib.hid (@stV_yes n b s.data.toList)
      rw [h2] at HBI
      have H1 := Lib.hid h1
      clear h1 h2 hs ha hb p1 p2
      generalize stV n b s.data.toList = VV at *
      generalize stOk n b s.data.toList = OK at *
      generalize stL n b s.data.toList = LL at *
      generalize dB b = d at *
      generalize oB b = o at *
      go_enter Try.func18, Try.ntmps18
      go_wp2_with fail
      refine (validStuffer_impl _ _ _).mono ?_; rintro e w0 ⟨rfl, hb0⟩
      have B0 := Lib.hid (HB.out.trans (hb0.mono HB.out.size))
      have O0 := Lib.hid (HO.out.keep hb0)
      clear hb0 HO HB
      rw [H1.out]
      obtain ⟨q0, q1⟩ := sbl_two O0.out
      go_wp2_with fail
      refine (HBI.out _).mono ?_; rintro e w1 ⟨rfl, hb1⟩
      have B1 := Lib.hid (B0.out.trans (hb1.mono B0.out.size))
      have O1 := Lib.hid (O0.out.keep hb1)
      clear hb1 q0 q1 B0 O0
      have hlt0 : w.heap.size < w1.heap.size := O1.out.lt
      obtain ⟨q0, q1⟩ := sbl_two O1.out
      have SI0 := Lib.hid (SI.start O1.out)
      go_wp2_with fail
      go_loopw [21] (fun i wr => ∃ (k r : Nat) (M : List UInt8), k ≤ s.size ∧ i = .int .i64 k ∧ stF n d o (s.data.toList.take k) = (M, r) ∧ SI w w1 n b M r wr) (fun i _ => s.size - (intOf i).toNat)
      case atStart => exact ⟨0, 0, [], Nat.zero_le _, rfl, by simp [stF], SI0.out⟩
      case round =>
        clear q0 q1 SI0
        obtain ⟨k, r, M, hk, rfl, hst, hsi⟩ := hrel
        have HM := Lib.hid hst
        have HSI := Lib.hid hsi
        have hlen : M.length ≤ 800 := by have := (HL.out k).2; rw [hst] at this; simp at this; omega
        have hrun : r < n := by have := HRUN.out k; rw [hst] at this; exact this
        have hbs : w1.heap.size ≤ wr.heap.size := hsi.bel.size
        clear hst hsi
        by_cases hlt : k < s.size
        · have HS := Lib.hid (HST.out k hlt)
          obtain ⟨X, hX⟩ : ∃ X : Int, (s[k].toNat : Int) = X := ⟨_, rfl⟩
          have HX := Lib.hid hX
          have ea := hX
          clear hX
          go_wp2_with fail
          refine (bld_b _ _ _ X _ HSI.out.bld (by rw [bcells_len]; omega) hbs).mono ?_; rintro e w2 ⟨rfl, hbl2, hbw2, hwr2⟩
          have S2 := Lib.hid (HSI.out.write hlt0 s[k] X HX.out hbl2 hbw2 hwr2)
          clear hbl2 hbw2 hwr2 HSI
          go_wp2_with fail
          by_cases hxd : s[k] = d
          · by_cases hr : r + 1 = n
            · have HT : Hid (stF n d o (s.data.toList.take (k + 1)) = ((M ++ [s[k]]) ++ [o], 0)) := by show _ = _; rw [HS.out, hxd]; exact st_full HM.out hr
              refine (full_full _ _ n r b d o X HDG.out n2 hrun (by rw [← HX.out, hxd]) hr S2.out.wat).mono ?_; rintro e w3 ⟨rfl, hk3, hg3⟩
              have S3 := Lib.hid (S2.out.watch hlt0 hk3 hg3)
              clear hk3 hg3 S2
              obtain ⟨q0, q1⟩ := sbl_two S3.out.sbx
              go_wp2_with fail
              obtain ⟨Y, hY⟩ : ∃ Y : Int, (o.toNat : Int) = Y := ⟨_, rfl⟩
              refine (opposite_any _ _ d o HDG.out Y hY _).mono ?_; rintro e w4 ⟨rfl, hb4⟩
              have S4 := Lib.hid (S3.out.keep hb4)
              have hbs4 : w1.heap.size ≤ w4.heap.size := S4.out.bel.size
              have HY := Lib.hid hY
              clear hb4 S3 q0 q1 hY
              go_wp2_with fail
              refine (bld_b _ _ _ Y _ S4.out.bld (by rw [bcells_len]; simp; omega) hbs4).mono ?_; rintro e w5 ⟨rfl, hbl5, hbw5, hwr5⟩
              have S5 := Lib.hid (S4.out.write hlt0 o Y HY.out hbl5 hbw5 hwr5)
              clear hbl5 hbw5 hwr5 S4
              go_wp2_with fail
              go_roundw
              case rel => exact ⟨k + 1, 0, (M ++ [s[k]]) ++ [o], by omega, by go_num, HT.out, S5.out⟩
              case measure => simp [intOf]; omega
            · have HT : Hid (stF n d o (s.data.toList.take (k + 1)) = (M ++ [s[k]], r + 1)) := by show _ = _; rw [HS.out, hxd]; exact st_digit HM.out hr
              refine (full_digit _ _ n r b d o X HDG.out n2 hrun (by rw [← HX.out, hxd]) hr S2.out.wat).mono ?_; rintro e w3 ⟨rfl, hk3, hg3⟩
              have S3 := Lib.hid (S2.out.watch hlt0 hk3 hg3)
              clear hk3 hg3 S2
              go_wp2_with fail
              go_roundw
              case rel => exact ⟨k + 1, r + 1, M ++ [s[k]], by omega, by go_num, HT.out, S3.out⟩
              case measure => simp [intOf]; omega
          · have HT : Hid (stF n d o (s.data.toList.take (k + 1)) = (M ++ [s[k]], 0)) := by show _ = _; rw [HS.out]; exact st_other HM.out hxd
            refine (full_other _ _ n r b d o X HDG.out n2 hrun (by rw [← HX.out]; intro e; exact hxd (UInt8.toNat_inj.1 (by omega))) S2.out.wat).mono ?_; rintro e w3 ⟨rfl, hk3, hg3⟩
            have S3 := Lib.hid (S2.out.watch hlt0 hk3 hg3)
            clear hk3 hg3 S2
            go_wp2_with fail
            go_roundw
            case rel => exact ⟨k + 1, 0, M ++ [s[k]], by omega, by go_num, HT.out, S3.out⟩
            case measure => simp [intOf]; omega
        · have HE : Hid (stF n d o s.data.toList = (M, r)) := by show _ = _; rw [← HALL.out k hlt]; exact HM.out
          have e2 := HE0.out
          have e3 := HE1.out
          rw [HE.out] at e2 e3
          simp only at e2 e3
          go_wp2_with fail
          refine (bld_len _ _ _ _ HSI.out.bld (by rw [bcells_len]; omega)).mono ?_; rintro e w' ⟨rfl, rfl⟩
          rw [bcells_len]
          by_cases h4 : M.length ≤ 400
          · have h5 : ¬ (400 : Int) < (M.length : Int) := by omega
            rw [decide_eq_true h4] at e2
            have e4 := HVY.out e2
            rw [e3] at e4
            have HZ := Lib.hid (And.intro e4 e2)
            clear e2 e3 e4
            go_wp2_with fail
            refine (Go.Proofs.Try.Builder_String_any _ _ _ _ HSI.out.bld hbs).mono ?_; rintro e w6 ⟨rfl, hb6⟩
            have B6 := Lib.hid (B1.out.trans ((HSI.out.bel.trans hb6).mono B1.out.size))
            clear hb6
            go_wp2_with fail
            go_ret2
            exact ⟨by rw [HZ.out.1, HZ.out.2]; rfl, B6.out⟩
          · have h5 : (400 : Int) < (M.length : Int) := by omega
            rw [decide_eq_false h4] at e2
            have e4 := HVN.out e2
            have HZ := Lib.hid (And.intro e4 e2)
            clear e2 e3 e4
            go_wp2_with fail
            go_ret2
            exact ⟨by rw [HZ.out.1, HZ.out.2]; rfl, B1.out.trans (HSI.out.bel.mono B1.out.size)⟩
end Go.Proofs.Ytllkojakeoennaa
