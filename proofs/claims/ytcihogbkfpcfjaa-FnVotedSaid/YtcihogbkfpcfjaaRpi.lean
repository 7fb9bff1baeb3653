/- The program's RepeatBits. -/
import Derived.Test.YtcihogbkfpcfjaaRpm
import Derived.Test.YtcihogbkfpcfjaaBlr
import Derived.Test.YtcihogbkfpcfjaaShelf
import Derived.Lib.OthersKept
import Derived.Lib.Repeat
namespace Go.Proofs.Ytcihogbkfpcfjaa
open Go Go.RowKit
set_option linter.unusedVariables false


theorem rep_one (c : UInt8) : ∀ n, Lib.repeatL [c] n = List.replicate n c
  | 0 => rfl
  | n + 1 => by
    show [c] ++ Lib.repeatL [c] n = _
    rw [rep_one c n, List.replicate_succ]; rfl
theorem conv_r48 (W : World) : (Conv.intToString 48).run Try.prog W = .ok (.string ⟨#[48]⟩) W := by
  first | rfl | (simp [Conv.intToString, go_sem]; done) | decide
theorem conv_r49 (W : World) : (Conv.intToString 49).run Try.prog W = .ok (.string ⟨#[49]⟩) W := by
  first | rfl | (simp [Conv.intToString, go_sem]; done) | decide
/-- What the loop over the bits holds. -/
structure RI (w : World) (bb : Nat) (s : ByteArray) (pos : Nat) (M : List UInt8) (wr : World) : Prop where
  bld : BlR (bb + 2) bb (Lib.byteCells M) wr
  it : wr.heap[bb + 1]? = some (.stringIter s pos)
  bel : Below w.heap.size w wr
  low : w.heap.size ≤ bb
  siz : bb + 2 ≤ wr.heap.size
theorem iterAt_gb (w : World) (k : Nat) (s : ByteArray) (p : Nat) : w.grownBy (w.iterAt k s p) (some k) :=
  ⟨rfl, rfl, rfl, by rw [Lib.iterAt_size]; exact Nat.le_refl _, fun j _ hn => Lib.iterAt_other w k j s p (fun e => hn (by rw [e]))⟩
theorem RI.next {w wr : World} {bb : Nat} {s : ByteArray} {pos : Nat} {M : List UInt8} (h : RI w bb s pos M wr) (p : Nat) : RI w bb s p M (wr.iterAt (bb + 1) s p) :=
  ⟨h.bld.chg (iterAt_gb _ _ _ _) (by omega) (by omega), Lib.iterAt_heap _ _ _ _ _ h.it, Lib.below_iterAt h.bel (by have := h.low; omega) _ _, h.low, by rw [Lib.iterAt_size]; exact h.siz⟩
theorem RI.keep {w wr w2 : World} {bb : Nat} {s : ByteArray} {pos : Nat} {M : List UInt8} (h : RI w bb s pos M wr) (hb : Below wr.heap.size wr w2) : RI w bb s pos M w2 :=
  ⟨h.bld.keep hb, (hb.block _ (by have := h.siz; omega)).trans h.it, h.bel.trans (hb.mono h.bel.size), h.low, Nat.le_trans h.siz hb.size⟩
theorem RI.wrote {w wr w2 : World} {bb : Nat} {s : ByteArray} {pos : Nat} {M M' : List UInt8} (h : RI w bb s pos M wr) (hb : BlR (bb + 2) bb (Lib.byteCells M') w2) (hc : Chg (bb + 2) bb wr w2) : RI w bb s pos M' w2 :=
  ⟨hb, (hc.block _ (by omega) (by omega)).trans h.it, h.bel.trans (hc.below h.low (by have := h.low; omega)), h.low, Nat.le_trans h.siz hc.size⟩
theorem RI.start {w w1 : World} (s : ByteArray) (h : Below w.heap.size w w1) : RI w w1.heap.size s 0 [] ((w1.alloc (.cells #[.pointer none, .slice none 0 0] 63)).alloc (.stringIter s 0)) := by
  refine ⟨BlR.start (Blk.alloc (Blk.new w1 [.pointer none, .slice none 0 0] 63 _ rfl) _) (by omega), ?_, (h.alloc h.size _).alloc (by simp; have := h.size; omega) _, h.size, by simp⟩
  have := heap_alloc_new (w1.alloc (.cells #[.pointer none, .slice none 0 0] 63)) (.stringIter s 0)
  simpa using this
theorem str_cells (M L : List UInt8) : Lib.byteCells M ++ Lib.strCells ⟨L.toArray⟩ = Lib.byteCells (M ++ L) := by simp [Lib.byteCells, Lib.strCells]

set_option maxRecDepth 100000 in
set_option maxHeartbeats 2000000 in
theorem repeat_impl (s : ByteArray) (t : Int) (w : World) (hs : s.size ≤ maxLen) :
    Calls Try.prog 37 #[.string s, .int .i64 t] w fun e w' => e = .returned (.tuple #[.string (rpV s.data.toList t), .bool (rpOk s.data.toList t)]) ∧ Below w.heap.size w w' := by
  have HBI := Lib.hid (fun W => isBits_any s W hs)
  have HVT := Lib.hid (fun W => isVote_any t W)
  cases g0 : isB s.data.toList
  · rw [rpV_no (rp_no (.inl g0)), rp_no (.inl g0)]
    rw [g0] at HBI
    clear g0 hs
    go_enter Try.func37, Try.ntmps37
    go_wp2_with fail
    refine (HBI.out _).mono ?_; rintro e w1 ⟨rfl, hb1⟩
    have B1 := Lib.hid hb1
    clear hb1
    go_wp2_with fail
    go_ret2
    exact ⟨rfl, B1.out⟩
  · rw [g0] at HBI
    cases g1 : vtB t
    · rw [rpV_no (rp_no (.inr (.inl g1))), rp_no (.inr (.inl g1))]
      rw [g1] at HVT
      clear g0 g1 hs
      go_enter Try.func37, Try.ntmps37
      go_wp2_with fail
      refine (HBI.out _).mono ?_; rintro e w1 ⟨rfl, hb1⟩
      have B1 := Lib.hid hb1
      clear hb1
      go_wp2_with fail
      refine (HVT.out _).mono ?_; rintro e w' ⟨rfl, rfl⟩
      go_wp2_with fail
      go_ret2
      exact ⟨rfl, B1.out⟩
    · rw [g1] at HVT
      obtain ⟨t1, t2, -⟩ := vt_is g1
      obtain ⟨h400, hin⟩ := isB_parts g0
      have hsz : s.size ≤ 400 := h400
      have hp : 0 ≤ (s.size : Int) * t := Int.mul_nonneg (by omega) (by omega)
      have hp2 : (s.size : Int) * t ≤ 400 * 15 := Int.mul_le_mul (by omega) t2 (by omega) (by omega)
      obtain ⟨P, hP⟩ : ∃ P, P = (s.size : Int) * t := ⟨_, rfl⟩
      have hw : IntKind.i64.wrap ((s.size : Int) * t) = P := by rw [hP]; exact IntWalk.i64_in _ (by omega)
      by_cases hq : (s.size : Int) * t ≤ 400
      · have e1 : rpOk s.data.toList t = true := rp_yes g0 g1 hq
        rw [rpV_yes e1, e1]
        obtain ⟨T, rfl⟩ := Int.eq_ofNat_of_zero_le (show 0 ≤ t by omega)
        rw [Int.toNat_natCast]
        have hq4 : ¬ 400 < P := by omega
        have HML : Hid (∀ i, i ≤ s.size → i * T ≤ 400) := by
          show ∀ _, _
          intro i hi
          have := Nat.mul_le_mul_right T hi
          have h2 : ((s.size * T : Nat) : Int) = (s.size : Int) * (T : Int) := Int.natCast_mul _ _
          omega
        have HIN := Lib.hid hin
        have HALL := Lib.hid (take_all s s.size (by omega))
        have HTK := Lib.hid (fun k hk => take_snoc s k hk)
        have HRL := Lib.hid (fun l => rpL_len l T)
        have HSN := Lib.hid (fun l c => rpL_snoc l c T)
        have HR48 := Lib.hid (fun W => Try.strings_Repeat ⟨#[48]⟩ T W (by omega) (by show 1 * T ≤ _; omega))
        have HR49 := Lib.hid (fun W => Try.strings_Repeat ⟨#[49]⟩ T W (by omega) (by show 1 * T ≤ _; omega))
        rw [show (⟨#[48]⟩ : ByteArray).data.toList = [48] from rfl, rep_one] at HR48
        rw [show (⟨#[49]⟩ : ByteArray).data.toList = [49] from rfl, rep_one] at HR49
        have c48 := conv_r48
        have c49 := conv_r49
        clear e1 g0 g1 h400 hin hs hp hp2 hP hq
        go_enter Try.func37, Try.ntmps37
        go_wp2_with fail
        refine (HBI.out _).mono ?_; rintro e w1 ⟨rfl, hb1⟩
        have B1 := Lib.hid hb1
        clear hb1
        go_wp2_with fail
        refine (HVT.out _).mono ?_; rintro e w' ⟨rfl, rfl⟩
        have HS := Lib.hid (RI.start s B1.out)
        go_wp2_with fail
        generalize w1.heap.size = bb at *
        go_loopw [8] (fun _ wr => ∃ pos : Nat, pos ≤ s.size ∧ RI w bb s pos (rpL (s.data.toList.take pos) T) wr) (fun _ wr => s.size - wr.iterPos (bb + 1))
        case atStart => exact ⟨0, Nat.zero_le _, HS.out⟩
        case round =>
          obtain ⟨pos, hpos, hri⟩ := hrel
          have HRI := Lib.hid hri
          clear hri HS
          by_cases hp : pos < s.size
          · have hcc := inR_at 48 49 s pos hp HIN.out
            have hasc : s[pos].toNat < 128 := by omega
            have hm := HML.out (pos + 1) (by omega)
            rw [Nat.succ_mul] at hm
            have hlen : (rpL (s.data.toList.take pos) T).length = pos * T := by rw [HRL.out, List.length_take, show min pos s.data.toList.length = pos from by have : s.data.toList.length = s.size := rfl; omega]
            have HN : Hid (rpL (s.data.toList.take (pos + 1)) T = rpL (s.data.toList.take pos) T ++ List.replicate T s[pos]) := by show _ = _; rw [HTK.out pos hp, HSN.out]
            have HLEN := Lib.hid hlen
            clear hlen
            generalize rpL (s.data.toList.take pos) T = M at *
            obtain ⟨W1, hW1⟩ : ∃ W1, W1 = wr.iterAt (bb + 1) s (pos + 1) := ⟨_, rfl⟩
            have R1 := Lib.hid (show RI w bb s (pos + 1) M W1 from by rw [hW1]; exact HRI.out.next (pos + 1))
            rcases (show s[pos] = 48 ∨ s[pos] = 49 from by
              rcases (show s[pos].toNat = 48 ∨ s[pos].toNat = 49 from by omega) with h | h
              · exact .inl (UInt8.toNat_inj.1 (by simpa using h))
              · exact .inr (UInt8.toNat_inj.1 (by simpa using h))) with hc | hc
            · have hnx : ∀ ty, (Instr.next (.pointer (some ⟨bb + 1, 0, none⟩)) true ty).run Try.prog wr = .ok (.tuple #[.bool true, .int .i64 pos, .int .i32 48]) W1 := fun ty => by rw [hW1, Lib.run_next_ascii_at wr (bb + 1) s pos ty HRI.out.it hp hasc, hc]; rfl
              rw [hc] at HN
              clear hW1 hcc hasc hc
              go_wp2_with fail
              refine (HR48.out _).mono ?_; rintro e w4 ⟨rfl, hb4⟩
              have R4 := Lib.hid (R1.out.keep hb4)
              clear hb4 hnx R1
              go_wp2_with fail
              refine (blr_w _ _ _ ⟨(List.replicate T 48).toArray⟩ _ R4.out.bld (by have := HLEN.out; simp [Lib.byteCells, ByteArray.size]; omega) R4.out.siz).mono ?_; rintro e w5 ⟨rfl, hbl5, hc5⟩
              rw [str_cells, ← HN.out] at hbl5
              have R5 := Lib.hid (R4.out.wrote hbl5 hc5)
              clear hbl5 hc5 R4
              go_wp2_with fail
              go_roundw
              case rel => exact ⟨pos + 1, by omega, R5.out⟩
              case measure => simp only [World.iterPos, HRI.out.it, R5.out.it]; omega
            · have hnx : ∀ ty, (Instr.next (.pointer (some ⟨bb + 1, 0, none⟩)) true ty).run Try.prog wr = .ok (.tuple #[.bool true, .int .i64 pos, .int .i32 49]) W1 := fun ty => by rw [hW1, Lib.run_next_ascii_at wr (bb + 1) s pos ty HRI.out.it hp hasc, hc]; rfl
              rw [hc] at HN
              clear hW1 hcc hasc hc
              go_wp2_with fail
              refine (HR49.out _).mono ?_; rintro e w4 ⟨rfl, hb4⟩
              have R4 := Lib.hid (R1.out.keep hb4)
              clear hb4 hnx R1
              go_wp2_with fail
              refine (blr_w _ _ _ ⟨(List.replicate T 49).toArray⟩ _ R4.out.bld (by have := HLEN.out; simp [Lib.byteCells, ByteArray.size]; omega) R4.out.siz).mono ?_; rintro e w5 ⟨rfl, hbl5, hc5⟩
              rw [str_cells, ← HN.out] at hbl5
              have R5 := Lib.hid (R4.out.wrote hbl5 hc5)
              clear hbl5 hc5 R4
              go_wp2_with fail
              go_roundw
              case rel => exact ⟨pos + 1, by omega, R5.out⟩
              case measure => simp only [World.iterPos, HRI.out.it, R5.out.it]; omega
          · obtain rfl : pos = s.size := by omega
            have hnx : ∀ ty, (Instr.next (.pointer (some ⟨bb + 1, 0, none⟩)) true ty).run Try.prog wr = _ := fun ty => Lib.run_next_end_at wr (bb + 1) s s.size ty HRI.out.it hp
            have hb2 := HRI.out.bld
            rw [HALL.out] at hb2
            have HB2 := Lib.hid hb2
            clear hb2 HML HTK HRL HSN
            go_wp2_with fail
            refine (Go.Proofs.Try.Builder_String_any _ _ _ _ HB2.out.isB (by have := HRI.out.siz; omega)).mono ?_; rintro e w6 ⟨rfl, hb6⟩
            have B6 := Lib.hid (HRI.out.bel.trans (hb6.mono HRI.out.low))
            clear hb6
            go_wp2_with fail
            go_ret2
            exact ⟨rfl, B6.out⟩
      · have hl : ((s.data.toList.length : Nat) : Int) = (s.size : Int) := rfl
        have hbad := rp_no (l := s.data.toList) (t := t) (.inr (.inr (by rw [hl]; omega)))
        rw [rpV_no hbad, hbad]
        have hq4 : 400 < P := by omega
        clear hbad h400 hin hs hP hq hp hp2 hl g0 g1
        go_enter Try.func37, Try.ntmps37
        go_wp2_with fail
        refine (HBI.out _).mono ?_; rintro e w1 ⟨rfl, hb1⟩
        have B1 := Lib.hid hb1
        clear hb1
        go_wp2_with fail
        refine (HVT.out _).mono ?_; rintro e w' ⟨rfl, rfl⟩
        go_wp2_with fail
        go_ret2
        exact ⟨rfl, B1.out⟩
end Go.Proofs.Ytcihogbkfpcfjaa
