/- The program's DeframeBits. -/
import Derived.Test.YtllkojakeoennaaDfs
import Derived.Test.YtllkojakeoennaaUni
import Derived.Lib.SlBytesRow
import Derived.Shelf.Bytes.SlSmallAll
import Derived.Deep.RegionHeld3
namespace Go.Proofs.Ytllkojakeoennaa
open Go Go.RowKit
set_option linter.unusedVariables false

def numB (l : List UInt8) : List Int := l.map fun c => (c.toNat : Int)
theorem bytesOf_numB (l : List UInt8) : Lib.bytesOf (numB l) = l := by
  unfold Lib.bytesOf numB
  rw [List.map_map]
  conv => rhs; rw [← List.map_id l]
  apply List.map_congr_left
  intro c _
  simp
theorem rdv_cells {K : Nat → Prop} {w : World} {A : Option Addr} {n c : Nat} {l : List UInt8} (h : RdV K w (.slice A n c) (byteVals l)) : l.length = n ∧ n ≤ c ∧ (0 < n → ∃ b o, A = some ⟨b, o, none⟩ ∧ K b ∧ ∀ i, i < n → w.cell? ((⟨b, o, none⟩ : Addr).add i) = some (.int .u8 ((numB l).getD i 0))) := by
  obtain ⟨A', n', c', e, hn, h1, h2, h3⟩ := h
  injection e with e1 e2 e3
  subst e1; subst e2; subst e3
  rw [byteVals_length] at hn
  refine ⟨hn, h1, fun h0 => ?_⟩
  obtain ⟨b, o, rfl, hK, -, hc⟩ := h3 h0
  refine ⟨b, o, rfl, hK, fun i hi => ?_⟩
  have := hc i (.int .u8 (l[i]'(by omega)).toNat) (by simp [byteVals, hn, hi])
  have e : (⟨b, o, none⟩ : Addr).add i = ⟨b, o + i, none⟩ := by simp [Addr.add]
  rw [e, this]
  simp [numB, hn, hi]
theorem idx_any (W : World) (m : Int) {K1 K2 : Nat → Prop} (vr vf : Value) (R F : List UInt8) (hm : W.cell? ⟨0, 0, none⟩ = some (.int .i64 m)) (h1 : RdV K1 W vr (byteVals R)) (h2 : RdV K2 W vf (byteVals F)) (hR : R.length ≤ 400) (hF : 2 ≤ F.length ∧ F.length ≤ 400) :
    Calls Try.prog 63 #[vr, vf] W fun e w' => e = .returned (.int .i64 (Lib.index R F)) ∧ ∃ q, w' = W.drewN q := by
  obtain ⟨A1, c1, rfl, -⟩ := h1.sh
  obtain ⟨A2, c2, rfl, -⟩ := h2.sh
  obtain ⟨e1, k1, r1⟩ := rdv_cells h1
  obtain ⟨e2, k2, r2⟩ := rdv_cells h2
  simp only [byteVals_length] at *
  by_cases hlt : R.length < F.length
  · refine (Try.bytes_Index_longer A1 A2 R.length c1 F.length c2 W hF.1 hlt (by omega)).mono ?_
    rintro e w' ⟨rfl, rfl⟩
    refine ⟨?_, 0, rfl⟩
    rw [Lib.index_none fun j hj => occ_no_room (by omega) (by omega)]
  · obtain ⟨b1, o1, rfl, -, cc1⟩ := r1 (by omega)
    obtain ⟨b2, o2, rfl, -, cc2⟩ := r2 (by omega)
    refine (Try.bytes_Index_at ⟨b1, o1, none⟩ ⟨b2, o2, none⟩ R.length c1 F.length c2 (numB R) (numB F) m W (by simp [numB]) (by simp [numB]) ?_ ?_ cc1 cc2 k1 (by omega) (by omega) hm).mono ?_
    · intro x hx; obtain ⟨c, -, rfl⟩ := List.mem_map.1 hx; have := c.toNat_lt; omega
    · intro x hx; obtain ⟨c, -, rfl⟩ := List.mem_map.1 hx; have := c.toNat_lt; omega
    · rintro e w' ⟨rfl, q, rfl⟩
      rw [bytesOf_numB, bytesOf_numB]
      exact ⟨rfl, q, rfl⟩
/-- A part of the bytes, as a text. -/
theorem conv_part {K : Nat → Prop} {w : World} {A : Option Addr} {n c : Nat} {l : List UInt8} (h : RdV K w (.slice A n c) (byteVals l)) (t c' : Nat) (ht : t ≤ n) :
    (convert 53 9 (.slice A t c')).run Try.prog w = .ok (.string ⟨(l.take t).toArray⟩) w := by
  obtain ⟨e1, k1, r1⟩ := rdv_cells h
  by_cases h0 : t = 0
  · subst h0
    rw [run_convert_bytes_zero w 53 5 Try.underlying53 Try.underlying5 A c' 9 Try.underlying9]
    rfl
  · obtain ⟨b, o, rfl, -, cc⟩ := r1 (by omega)
    have hl : (l.take t).length = t := by rw [List.length_take]; omega
    have := run_convert_bytes_back (P := Try.prog) w 53 9 5 ⟨b, o, none⟩ c' (l.take t) Try.underlying53 Try.underlying5 Try.underlying9 (fun j hj => by
      rw [cc j (by omega)]
      have hj' : j < l.length := by omega
      simp [numB, hj'])
    rwa [hl] at this

theorem dfOne_b {n : Nat} {d o : UInt8} {l : List UInt8} (h : unOk n d o l = true) : dfOne n d o l = if (unF n d l).1 = [] then [] else [⟨(unF n d l).1.toArray⟩] := by
  by_cases h1 : (unF n d l).1 = []
  · rw [if_pos h1]
    unfold dfOne
    rw [if_neg]
    rintro ⟨h2, -⟩
    unfold unOk at h
    rw [h1] at h
    exact h2 (of_decide_eq_true h).symm
  · rw [if_neg h1]
    unfold dfOne
    rw [if_pos ⟨fun e => h1 (by rw [e]; rfl), h⟩]
theorem isB_of {l : List UInt8} (h1 : l.length ≤ 400) (h2 : inR 48 49 l = true) : isB l = true := by
  unfold isB; rw [decide_eq_true h1, h2]; rfl

theorem df_call1 (w2 o : World) (mx : Int) (s P : ByteArray) (hmx : ∀ W, Below w2.heap.size w2 W → W.cell? ⟨0, 0, none⟩ = some (.int .i64 mx)) (hs : s.size ≤ 400) (hP : 2 ≤ P.size ∧ P.size ≤ 400) :
    Calls Try.prog 63 #[.slice (some ⟨w2.heap.size, 0, none⟩) s.size (capB w2 s), .slice (some ⟨w2.heap.size + 1, 0, none⟩) P.size (capB o P)] ((w2.alloc (.cells (rowB w2 s) 5 (markB w2 s))).alloc (.cells (rowB o P) 5 (markB o P))).drew.drew
      fun e w' => e = .returned (.int .i64 (Lib.index s.data.toList P.data.toList)) ∧ RdV (· = w2.heap.size) w' (.slice (some ⟨w2.heap.size, 0, none⟩) s.size (capB w2 s)) (byteVals s.data.toList) ∧ Below w2.heap.size w2 w' ∧ w2.heap.size + 1 ≤ w'.heap.size := by
  have hm1 : s.size ≤ maxLen := by unfold maxLen; omega
  have hm2 : P.size ≤ maxLen := by unfold maxLen; omega
  have r1 := rdv_conv w2 s hm1 w2
  have k1 : Below w2.heap.size w2 (w2.alloc (.cells (rowB w2 s) 5 (markB w2 s))) := (Below.refl _ _).alloc (Nat.le_refl _) _
  have r2 := rdv_conv (w2.alloc (.cells (rowB w2 s) 5 (markB w2 s))) P hm2 o
  have e2 : (w2.alloc (.cells (rowB w2 s) 5 (markB w2 s))).heap.size = w2.heap.size + 1 := by simp
  rw [e2] at r2
  have k2 : Below (w2.alloc (.cells (rowB w2 s) 5 (markB w2 s))).heap.size (w2.alloc (.cells (rowB w2 s) 5 (markB w2 s))) (((w2.alloc (.cells (rowB w2 s) 5 (markB w2 s))).alloc (.cells (rowB o P) 5 (markB o P))).drew.drew) := ((Below.refl _ _).alloc (Nat.le_refl _) _).drew.drew
  have r1' : RdV (· = w2.heap.size) (((w2.alloc (.cells (rowB w2 s) 5 (markB w2 s))).alloc (.cells (rowB o P) 5 (markB o P))).drew.drew) (.slice (some ⟨w2.heap.size, 0, none⟩) s.size (capB w2 s)) (byteVals s.data.toList) := RdV.keep (w := w2.alloc (.cells (rowB w2 s) 5 (markB w2 s))) r1 k2
  have hb := k1.trans (k2.mono k1.size)
  have hsz : w2.heap.size + 1 ≤ (((w2.alloc (.cells (rowB w2 s) 5 (markB w2 s))).alloc (.cells (rowB o P) 5 (markB o P))).drew.drew).heap.size := by rw [← e2]; exact k2.size
  refine (idx_any _ mx _ _ s.data.toList P.data.toList (hmx _ hb) r1' r2 (by simpa using hs) (by simpa using hP)).mono ?_
  rintro e w' ⟨rfl, q, rfl⟩
  exact ⟨rfl, r1'.keep (below_drewN (Below.refl _ _) q), below_drewN hb q, hsz⟩
theorem df_call2 (wr o : World) (mx : Int) (K : Nat → Prop) (vr : Value) (R : List UInt8) (P : ByteArray) (hmx : ∀ W, Below wr.heap.size wr W → W.cell? ⟨0, 0, none⟩ = some (.int .i64 mx)) (hr : RdV K wr vr (byteVals R)) (hs : R.length ≤ 400) (hP : 2 ≤ P.size ∧ P.size ≤ 400) :
    Calls Try.prog 63 #[vr, .slice (some ⟨wr.heap.size, 0, none⟩) P.size (capB o P)] (wr.alloc (.cells (rowB o P) 5 (markB o P))).drew
      fun e w' => e = .returned (.int .i64 (Lib.index R P.data.toList)) ∧ Below wr.heap.size wr w' := by
  have hm2 : P.size ≤ maxLen := by unfold maxLen; omega
  have r2 := rdv_conv wr P hm2 o
  have k2 : Below wr.heap.size wr (wr.alloc (.cells (rowB o P) 5 (markB o P))).drew := ((Below.refl _ _).alloc (Nat.le_refl _) _).drew
  refine (idx_any _ mx _ _ R P.data.toList (hmx _ k2) (hr.keep k2) r2 hs (by simpa using hP)).mono ?_
  rintro e w' ⟨rfl, q, rfl⟩
  exact ⟨rfl, below_drewN k2 q⟩
theorem rdv_below {K : Nat → Prop} {w w' : World} {B : Nat} {v : Value} {l : List Value} (h : RdV K w v l) (hb : Below B w w') (hK : ∀ b, K b → b < B) : RdV K w' v l := h.same (fun b hb' _ => hb.block b (hK b hb')) hb.size
theorem index_bd (R F : List UInt8) (h : R.length ≤ 400) : -1 ≤ Lib.index R F ∧ Lib.index R F ≤ 400 := by
  refine ⟨Lib.index_ge R F, ?_⟩
  rcases Int.lt_or_le (Lib.index R F) 0 with h' | h'
  · omega
  · have := Lib.index_room R F h'; omega
theorem df_keep {K : Nat → Prop} {W : World} {q k c : Nat} {a b : Int} {A : Option Addr} {R X : List UInt8} (h : Blk W q 25 (sV a b)) (hr : RdV K W (.slice A R.length c) (byteVals R)) (hk : k ≤ R.length) (hX : R.take k = X) :
    W.cell? ⟨q, 0, none⟩ = some (.int .i64 a) ∧ W.cell? ⟨q, 1, none⟩ = some (.int .i64 b) ∧ (convert 53 9 (.slice A k c)).run Try.prog W = .ok (.string ⟨X.toArray⟩) W := by
  obtain ⟨q0, q1⟩ := sbl_two h
  rw [← hX]
  exact ⟨q0, q1, conv_part hr k c hk⟩
def sliceN (v : Value) : Nat := match v with | .slice _ n _ => n | _ => 0
theorem df_step {n : Nat} {d o : UInt8} {F R : List UInt8} {V Q : List ByteArray} {beh : Bool} {k : Nat} (hF : 0 < F.length) (hi : Lib.index R F = (k : Int)) (h : V = Q ++ dfG n d o F R beh) : k + F.length ≤ R.length ∧ V = (Q ++ (if beh = true then dfOne n d o (R.take k) else [])) ++ dfG n d o F (R.drop (k + F.length)) true := by
  have h1 := Lib.index_room R F (by omega)
  refine ⟨by omega, ?_⟩
  rw [h, dfG_step hF (by omega) hi, List.append_assoc]

set_option maxRecDepth 100000 in
set_option maxHeartbeats 4000000 in
theorem deframeBits_impl (w : World) (a b : Int) (s : ByteArray) (hs : s.size ≤ maxLen) (mx : Int) (hmx : w.cell? ⟨0, 0, none⟩ = some (.int .i64 mx)) :
    Calls Try.prog 29 #[.agg #[.int .i64 a, .int .i64 b], .string s] w fun e w' => ∃ u, e = .returned (.tuple #[u, .bool (dfOk a b s.data.toList)]) ∧ OwnT w' w.heap.size u (dfV a b s.data.toList) ∧ Below w.heap.size w w' := by
  obtain ⟨i0, hi, hz0, hz1, hz2⟩ := info_parts Try.infoStr
  have HB : Hid (Below w.heap.size w (w.alloc (.cells #[.int .i64 a, .int .i64 b] 25))) := (Below.refl _ _).alloc (Nat.le_refl _) _
  have HO := Lib.hid (sbl_new w a b)
  have HBI := Lib.hid (fun W => isBits_any s W hs)
  have HFLA := Lib.hid (fun W => flagOf_impl W a b)
  have HMX : Hid (∀ W, Below w.heap.size w W → W.cell? ⟨0, 0, none⟩ = some (.int .i64 mx)) := by
    show ∀ W, Below w.heap.size w W → _
    exact fun W hb => (hb.cell (World.block_lt_of_cell? w _ hmx)).trans hmx
  clear hmx
  cases h1 : sOk a b
  · have e0 : dfOk a b s.data.toList = false := by unfold dfOk; rw [h1]; rfl
    rw [dfV_no e0, e0]
    rw [h1] at HFLA
    clear e0 h1 hs
    go_enter Try.func29, Try.ntmps29
    go_wp2_with fail
    refine (HFLA.out _).mono ?_; rintro e w1 ⟨rfl, hb1⟩
    have B1 := Lib.hid (HB.out.trans (hb1.mono HB.out.size))
    clear hb1
    go_wp2_with fail
    go_ret2
    exact ⟨_, rfl, own_str_nil _ _, B1.out⟩
  · rw [h1] at HFLA
    cases h2 : isB s.data.toList
    · have e0 : dfOk a b s.data.toList = false := by unfold dfOk; rw [h1, h2]; rfl
      rw [dfV_no e0, e0]
      rw [h2] at HBI
      clear e0 h1 h2 hs
      go_enter Try.func29, Try.ntmps29
      go_wp2_with fail
      refine (HFLA.out _).mono ?_; rintro e w1 ⟨rfl, hb1⟩
      have B1 := Lib.hid (HB.out.trans (hb1.mono HB.out.size))
      clear hb1
      go_wp2_with fail
      refine (HBI.out _).mono ?_; rintro e w2 ⟨rfl, hb2⟩
      have B2 := Lib.hid (B1.out.trans (hb2.mono B1.out.size))
      clear hb2
      go_wp2_with fail
      go_ret2
      exact ⟨_, rfl, own_str_nil _ _, B2.out⟩
    · obtain ⟨ha, hb⟩ := sOk_p h1
      obtain ⟨p1, p2⟩ := isBt h2
      have hsz : s.size ≤ 400 := by simpa using p1
      have e0 : dfOk a b s.data.toList = true := by unfold dfOk; rw [h1, h2]; rfl
      obtain ⟨m, rfl⟩ : ∃ m : Nat, a = (m : Int) := ⟨a.toNat, by omega⟩
      have hV := dfV_yes e0
      have HVL := Lib.hid (dfV_len m b s.data.toList).1
      rw [show flG m b = (fl m (dB b) (oB b)).data.toList from by unfold fl flG flL; rw [Int.toNat_natCast], Int.toNat_natCast] at hV
      have hfv : flV m b = fl m (dB b) (oB b) := by unfold flV; rw [h1, Int.toNat_natCast]; rfl
      rw [hfv] at HFLA
      have hps : 2 ≤ (fl m (dB b) (oB b)).size ∧ (fl m (dB b) (oB b)).size ≤ 13 := by rw [fl_size]; omega
      have HUI : Hid (∀ (W : World) (X : List UInt8), X.length ≤ 400 → inR 48 49 X = true → Calls Try.prog 20 #[.agg #[.int .i64 m, .int .i64 b], .string ⟨X.toArray⟩] W fun e w' => e = .returned (.tuple #[.string (if unOk m (dB b) (oB b) X = true then ⟨(unF m (dB b) X).1.toArray⟩ else ⟨#[]⟩), .bool (unOk m (dB b) (oB b) X)]) ∧ Below W.heap.size W w') := by
        show ∀ (W : World) (X : List UInt8), _
        intro W X h3 h4
        have h := unstuffBits_impl W m b ⟨X.toArray⟩ (by simp [ByteArray.size]; unfold maxLen; omega)
        have e1 : usOk m b X = unOk m (dB b) (oB b) X := by unfold usOk; rw [h1, isB_of h3 h4, Int.toNat_natCast]; rfl
        have e2 : usV m b X = if unOk m (dB b) (oB b) X = true then ⟨(unF m (dB b) X).1.toArray⟩ else ⟨#[]⟩ := by unfold usV; rw [e1, Int.toNat_natCast]
        rw [show (⟨X.toArray⟩ : ByteArray).data.toList = X from rfl, e1, e2] at h
        exact h
      have HIN := Lib.hid p2
      have HSL : Hid (s.data.toList.length ≤ 400) := p1
      have hs0 := Lib.hid hs
      rw [e0]
      rw [h2] at HBI
      clear e0 h1 h2 hs ha hb p1 p2 hfv
      generalize dfV m b s.data.toList = V at *
      generalize fl m (dB b) (oB b) = P at *
      generalize dB b = d at *
      generalize oB b = o at *
      obtain ⟨hp1, hp2⟩ := hps
      have HPL : Hid (P.data.toList.length = P.size) := by show _ = _; simp
      have HV := Lib.hid hV
      clear hV
      have hcv := fun W => convB W s
      have hcf := fun W => convB W P
      go_enter Try.func29, Try.ntmps29
      go_wp2_with fail
      refine (HFLA.out _).mono ?_; rintro e w1 ⟨rfl, hb1⟩
      have B1 := Lib.hid (HB.out.trans (hb1.mono HB.out.size))
      have O1 := Lib.hid (HO.out.keep hb1)
      clear hb1
      go_wp2_with fail
      refine (HBI.out _).mono ?_; rintro e w2 ⟨rfl, hb2⟩
      have B2 := Lib.hid (B1.out.trans (hb2.mono B1.out.size))
      have O2 := Lib.hid (O1.out.keep hb2)
      clear hb2
      go_wp2_with fail
      refine (df_call1 w2 _ mx s P (fun W hb => HMX.out W (B2.out.trans (hb.mono B2.out.size))) hsz ⟨hp1, by omega⟩).mono ?_; rintro e w3 ⟨rfl, hr3, hb3, hz3⟩
      have B3 := Lib.hid (B2.out.trans (hb3.mono B2.out.size))
      have O3 := Lib.hid (O2.out.keep hb3)
      have R3 := Lib.hid hr3
      have HZ := Lib.hid (Nat.lt_of_lt_of_le (Nat.lt_succ_self w2.heap.size) hz3)
      clear hr3 hb3 hz3 hcv
      go_wp2_with fail
      go_loopw [8, 9, 10, 11] (fun fr rs bf at' wr => ∃ (R : List UInt8) (Q : List ByteArray) (beh : Bool), at' = .int .i64 (Lib.index R P.data.toList) ∧ bf = .bool beh ∧ V = Q ++ dfG m d o P.data.toList R beh ∧ R.length ≤ 400 ∧ inR 48 49 R = true ∧ RdV (· = w2.heap.size) wr rs (byteVals R) ∧ OwnT wr w3.heap.size fr Q ∧ Blk wr w.heap.size 25 (sV m b) ∧ Below w.heap.size w wr ∧ w3.heap.size ≤ wr.heap.size) (fun _ rs _ _ _ => sliceN rs)
      case atStart => exact ⟨s.data.toList, [], false, rfl, rfl, HV.out, HSL.out, HIN.out, R3.out, own_str_nil _ _, O3.out, B3.out, Nat.le_refl _⟩
      case round =>
        obtain ⟨R, Q, beh, rfl, rfl, hvq, hRL, hRI, hrd, hown, hob, hbw, hwz⟩ := hrel
        have hQ : Q.length ≤ 401 := by have h1 := HVL.out; rw [hvq, List.length_append] at h1; omega
        have hix := index_bd R P.data.toList hRL
        have HST := Lib.hid (fun k hi => df_step (k := k) (by rw [HPL.out]; omega) hi hvq)
        have HSP := Lib.hid (fun (hi : Lib.index R P.data.toList = -1) => hvq.trans (by rw [dfG_stop hi, List.append_nil]))
        have HRL := Lib.hid hRL
        have HRI := Lib.hid hRI
        have OB := Lib.hid hob
        have BW := Lib.hid hbw
        have WZ := Lib.hid hwz
        have OQ := Lib.hid hown
        have RR := Lib.hid hrd
        obtain ⟨A, c, rfl, hcn⟩ := hrd.sh
        rw [byteVals_length] at hcn
        simp only [byteVals_length] at RR ⊢
        obtain ⟨ix, hixe⟩ : ∃ ix, Lib.index R P.data.toList = ix := ⟨_, rfl⟩
        rw [hixe] at hix HST HSP ⊢
        clear hvq hRL hRI hob hbw hwz hown hrd hixe
        by_cases hge : 0 ≤ ix
        · obtain ⟨k, rfl⟩ : ∃ k : Nat, ix = (k : Int) := ⟨ix.toNat, by omega⟩
          obtain ⟨hkl, hvq⟩ := HST.out k rfl
          rw [HPL.out] at hkl hvq
          have HKL := Lib.hid hkl
          have g1 : (k : Int) ≤ (c : Int) := by omega
          have g2 : (0 : Int) ≤ (k : Int) := by omega
          have g3 : (k : Int) + (P.size : Int) ≤ (R.length : Int) := by omega
          have g4 : (k : Int) + (P.size : Int) ≤ (c : Int) := by omega
          have g5 : R.length ≤ 400 := HRL.out
          have g6 : ((k : Int) + (P.size : Int)).toNat = k + P.size := by omega
          obtain ⟨X, hX⟩ : ∃ X, R.take k = X := ⟨_, rfl⟩
          rw [hX] at hvq
          have HX := Lib.hid hX
          have HKN : Hid (k ≤ R.length) := by show _ ≤ _; omega
          have HXL : Hid (X.length ≤ 400) := by show _ ≤ _; rw [← hX, List.length_take]; omega
          have HXI : Hid (inR 48 49 X = true) := by
            show _ = _
            have h := HRI.out
            rw [← List.take_append_drop k R, inR_append, Bool.and_eq_true_iff] at h
            rw [← hX]; exact h.1
          have HUX0 := Lib.hid (fun W => HUI.out W X HXL.out HXI.out)
          have HVQ := Lib.hid hvq
          clear hX hvq hkl HST HSP
          cases hun : unOk m d o X
          · have HUX : Hid (∀ W, Calls Try.prog 20 #[.agg #[.int .i64 m, .int .i64 b], .string ⟨X.toArray⟩] W fun e w' => e = .returned (.tuple #[.string ⟨#[]⟩, .bool false]) ∧ Below W.heap.size W w') := by
              show ∀ W, _
              intro W
              have h := HUX0.out W
              rw [hun] at h
              exact h
            have HQ2 : Hid (V = Q ++ dfG m d o P.data.toList (R.drop (k + P.size)) true) := by
              show _ = _
              have h := HVQ.out
              rw [dfOne_no hun] at h
              simpa using h
            clear hun HUX0 HVQ
            cases beh
            all_goals
              have t0 := OB.out.drew
              have r0 := Lib.hid (RR.out.keep (Below.refl _ _).drew)
              have B6 := Lib.hid (BW.out.drew)
              obtain ⟨q0, q1, q2⟩ := df_keep t0 r0.out HKN.out HX.out
              go_wp2_with fail
              go_region_held3 (fun w' => w'.cell? ⟨w.heap.size, 0, none⟩ = some (.int .i64 (m : Int)) ∧ w'.cell? ⟨w.heap.size, 1, none⟩ = some (.int .i64 b) ∧ (convert 53 9 (.slice A k c)).run Try.prog w' = .ok (.string ⟨X.toArray⟩) w') ((first | with_reducible exact df_keep t7 r7.out HKN.out HX.out | with_reducible exact df_keep t0 r0.out HKN.out HX.out | fail))
                (first
                  | (go_at_call 20; refine (HUX.out _).mono ?_; rintro e u7 ⟨rfl, hb7⟩; have t7 := t0.keep hb7; have r7 := Lib.hid (r0.out.keep hb7); have B7 := Lib.hid (B6.out.trans (hb7.mono B6.out.size)); have R7 := Lib.hid r7.out; have Q7 := Lib.hid (OwnT.keep (w := wr.drew) OQ.out hb7); have K7 := Lib.hid t7; have Z7 := Lib.hid (Nat.le_trans WZ.out hb7.size); obtain ⟨q0, q1, q2⟩ := df_keep t7 r7.out HKN.out HX.out; clear hb7)
                  | fail)
              clear q0 q1 q2 t0 t7 B6 r0 r7
              have R8 : Hid (RdV (· = w2.heap.size) u7 (.slice (if c = k + P.size then A else A.map (·.add (k + P.size))) (R.length - (k + P.size)) (c - (k + P.size))) (byteVals (R.drop (k + P.size)))) := by
                show RdV _ _ _ _
                have h := R7.out.drop (k + P.size) (by rw [byteVals_length]; exact HKL.out)
                rw [show (byteVals R).drop (k + P.size) = byteVals (R.drop (k + P.size)) from by simp [byteVals]] at h
                exact h
              have hmW : Hid (∀ W, Below u7.heap.size u7 W → W.cell? ⟨0, 0, none⟩ = some (.int .i64 mx)) := by
                show ∀ W, _
                exact fun W hb => HMX.out W (B7.out.trans (hb.mono B7.out.size))
              have hinD : Hid (inR 48 49 (R.drop (k + P.size)) = true) := by
                show _ = _
                have h := HRI.out
                rw [← List.take_append_drop (k + P.size) R, inR_append, Bool.and_eq_true_iff] at h
                exact h.2
              have hlD : (R.drop (k + P.size)).length ≤ 400 := by rw [List.length_drop]; omega
              have HLD := Lib.hid hlD
              clear hlD R7
              go_wp2_with fail
              all_goals
                have R8' := R8.out
                first | rw [if_pos (by omega), show c - (k + P.size) = 0 from by omega] at R8' | rw [if_neg (by omega)] at R8'
                refine (df_call2 u7 _ mx (· = w2.heap.size) _ (R.drop (k + P.size)) P hmW.out (by simpa using R8') HLD.out ⟨by omega, by omega⟩).mono ?_; rintro e wz ⟨rfl, hbz⟩
                have RZ := Lib.hid (R8'.keep hbz)
                have QZ := Lib.hid (Q7.out.keep hbz)
                have KZ := Lib.hid (K7.out.keep hbz)
                have BZ := Lib.hid (B7.out.trans (hbz.mono B7.out.size))
                have ZZ := Lib.hid (Nat.le_trans Z7.out hbz.size)
                clear hbz R8' R8
                go_wp2_with fail
                go_roundw
                case rel => exact ⟨R.drop (k + P.size), Q, true, rfl, rfl, HQ2.out, HLD.out, hinD.out, by simpa using RZ.out, QZ.out, KZ.out, BZ.out, ZZ.out⟩
                case measure => simp [sliceN]; omega
          · obtain ⟨Y, hY⟩ : ∃ Y, (unF m d X).1 = Y := ⟨_, rfl⟩
            have HUX : Hid (∀ W, Calls Try.prog 20 #[.agg #[.int .i64 m, .int .i64 b], .string ⟨X.toArray⟩] W fun e w' => e = .returned (.tuple #[.string ⟨Y.toArray⟩, .bool true]) ∧ Below W.heap.size W w') := by
              show ∀ W, _
              intro W
              have h := HUX0.out W
              rw [hun, if_pos rfl, hY] at h
              exact h
            cases beh
            · have HQ2 : Hid (V = Q ++ dfG m d o P.data.toList (R.drop (k + P.size)) true) := by
                show _ = _
                have h := HVQ.out
                rw [if_neg (by simp), List.append_nil] at h
                exact h
              clear hun HUX0 HVQ hY
              have t0 := OB.out.drew
              have r0 := Lib.hid (RR.out.keep (Below.refl _ _).drew)
              have B6 := Lib.hid (BW.out.drew)
              obtain ⟨q0, q1, q2⟩ := df_keep t0 r0.out HKN.out HX.out
              go_wp2_with fail
              go_region_held3 (fun w' => w'.cell? ⟨w.heap.size, 0, none⟩ = some (.int .i64 (m : Int)) ∧ w'.cell? ⟨w.heap.size, 1, none⟩ = some (.int .i64 b) ∧ (convert 53 9 (.slice A k c)).run Try.prog w' = .ok (.string ⟨X.toArray⟩) w') ((first | with_reducible exact df_keep t7 r7.out HKN.out HX.out | with_reducible exact df_keep t0 r0.out HKN.out HX.out | fail))
                (first
                  | (go_at_call 20; refine (HUX.out _).mono ?_; rintro e u7 ⟨rfl, hb7⟩; have t7 := t0.keep hb7; have r7 := Lib.hid (r0.out.keep hb7); have B7 := Lib.hid (B6.out.trans (hb7.mono B6.out.size)); have R7 := Lib.hid r7.out; have Q7 := Lib.hid (OwnT.keep (w := wr.drew) OQ.out hb7); have K7 := Lib.hid t7; have Z7 := Lib.hid (Nat.le_trans WZ.out hb7.size); obtain ⟨q0, q1, q2⟩ := df_keep t7 r7.out HKN.out HX.out; clear hb7)
                  | fail)
              clear q0 q1 q2 t0 t7 B6 r0 r7
              have R8 : Hid (RdV (· = w2.heap.size) u7 (.slice (if c = k + P.size then A else A.map (·.add (k + P.size))) (R.length - (k + P.size)) (c - (k + P.size))) (byteVals (R.drop (k + P.size)))) := by
                show RdV _ _ _ _
                have h := R7.out.drop (k + P.size) (by rw [byteVals_length]; exact HKL.out)
                rw [show (byteVals R).drop (k + P.size) = byteVals (R.drop (k + P.size)) from by simp [byteVals]] at h
                exact h
              have hmW : Hid (∀ W, Below u7.heap.size u7 W → W.cell? ⟨0, 0, none⟩ = some (.int .i64 mx)) := by
                show ∀ W, _
                exact fun W hb => HMX.out W (B7.out.trans (hb.mono B7.out.size))
              have hinD : Hid (inR 48 49 (R.drop (k + P.size)) = true) := by
                show _ = _
                have h := HRI.out
                rw [← List.take_append_drop (k + P.size) R, inR_append, Bool.and_eq_true_iff] at h
                exact h.2
              have hlD : (R.drop (k + P.size)).length ≤ 400 := by rw [List.length_drop]; omega
              have HLD := Lib.hid hlD
              clear hlD R7
              go_wp2_with fail
              all_goals
                have R8' := R8.out
                first | rw [if_pos (by omega), show c - (k + P.size) = 0 from by omega] at R8' | rw [if_neg (by omega)] at R8'
                refine (df_call2 u7 _ mx (· = w2.heap.size) _ (R.drop (k + P.size)) P hmW.out (by simpa using R8') HLD.out ⟨by omega, by omega⟩).mono ?_; rintro e wz ⟨rfl, hbz⟩
                have RZ := Lib.hid (R8'.keep hbz)
                have QZ := Lib.hid (Q7.out.keep hbz)
                have KZ := Lib.hid (K7.out.keep hbz)
                have BZ := Lib.hid (B7.out.trans (hbz.mono B7.out.size))
                have ZZ := Lib.hid (Nat.le_trans Z7.out hbz.size)
                clear hbz R8' R8
                go_wp2_with fail
                go_roundw
                case rel => exact ⟨R.drop (k + P.size), Q, true, rfl, rfl, HQ2.out, HLD.out, hinD.out, by simpa using RZ.out, QZ.out, KZ.out, BZ.out, ZZ.out⟩
                case measure => simp [sliceN]; omega
            · by_cases hy0 : Y = []
              · subst hy0
                have HQ2 : Hid (V = Q ++ dfG m d o P.data.toList (R.drop (k + P.size)) true) := by
                  show _ = _
                  have h := HVQ.out
                  rw [if_pos rfl, dfOne_b hun, if_pos hY, List.append_nil] at h
                  exact h
                clear hun HUX0 HVQ hY
                have t0 := OB.out.drew
                have r0 := Lib.hid (RR.out.keep (Below.refl _ _).drew)
                have B6 := Lib.hid (BW.out.drew)
                obtain ⟨q0, q1, q2⟩ := df_keep t0 r0.out HKN.out HX.out
                go_wp2_with fail
                go_region_held3 (fun w' => w'.cell? ⟨w.heap.size, 0, none⟩ = some (.int .i64 (m : Int)) ∧ w'.cell? ⟨w.heap.size, 1, none⟩ = some (.int .i64 b) ∧ (convert 53 9 (.slice A k c)).run Try.prog w' = .ok (.string ⟨X.toArray⟩) w') ((first | with_reducible exact df_keep t7 r7.out HKN.out HX.out | with_reducible exact df_keep t0 r0.out HKN.out HX.out | fail))
                  (first
                    | (go_at_call 20; refine (HUX.out _).mono ?_; rintro e u7 ⟨rfl, hb7⟩; have t7 := t0.keep hb7; have r7 := Lib.hid (r0.out.keep hb7); have B7 := Lib.hid (B6.out.trans (hb7.mono B6.out.size)); have R7 := Lib.hid r7.out; have Q7 := Lib.hid (OwnT.keep (w := wr.drew) OQ.out hb7); have K7 := Lib.hid t7; have Z7 := Lib.hid (Nat.le_trans WZ.out hb7.size); obtain ⟨q0, q1, q2⟩ := df_keep t7 r7.out HKN.out HX.out; clear hb7)
                    | fail)
                clear q0 q1 q2 t0 t7 B6 r0 r7
                have R8 : Hid (RdV (· = w2.heap.size) u7 (.slice (if c = k + P.size then A else A.map (·.add (k + P.size))) (R.length - (k + P.size)) (c - (k + P.size))) (byteVals (R.drop (k + P.size)))) := by
                  show RdV _ _ _ _
                  have h := R7.out.drop (k + P.size) (by rw [byteVals_length]; exact HKL.out)
                  rw [show (byteVals R).drop (k + P.size) = byteVals (R.drop (k + P.size)) from by simp [byteVals]] at h
                  exact h
                have hmW : Hid (∀ W, Below u7.heap.size u7 W → W.cell? ⟨0, 0, none⟩ = some (.int .i64 mx)) := by
                  show ∀ W, _
                  exact fun W hb => HMX.out W (B7.out.trans (hb.mono B7.out.size))
                have hinD : Hid (inR 48 49 (R.drop (k + P.size)) = true) := by
                  show _ = _
                  have h := HRI.out
                  rw [← List.take_append_drop (k + P.size) R, inR_append, Bool.and_eq_true_iff] at h
                  exact h.2
                have hlD : (R.drop (k + P.size)).length ≤ 400 := by rw [List.length_drop]; omega
                have HLD := Lib.hid hlD
                clear hlD R7
                go_wp2_with fail
                all_goals
                  have R8' := R8.out
                  first | rw [if_pos (by omega), show c - (k + P.size) = 0 from by omega] at R8' | rw [if_neg (by omega)] at R8'
                  refine (df_call2 u7 _ mx (· = w2.heap.size) _ (R.drop (k + P.size)) P hmW.out (by simpa using R8') HLD.out ⟨by omega, by omega⟩).mono ?_; rintro e wz ⟨rfl, hbz⟩
                  have RZ := Lib.hid (R8'.keep hbz)
                  have QZ := Lib.hid (Q7.out.keep hbz)
                  have KZ := Lib.hid (K7.out.keep hbz)
                  have BZ := Lib.hid (B7.out.trans (hbz.mono B7.out.size))
                  have ZZ := Lib.hid (Nat.le_trans Z7.out hbz.size)
                  clear hbz R8' R8
                  go_wp2_with fail
                  go_roundw
                  case rel => exact ⟨R.drop (k + P.size), Q, true, rfl, rfl, HQ2.out, HLD.out, hinD.out, by simpa using RZ.out, QZ.out, KZ.out, BZ.out, ZZ.out⟩
                  case measure => simp [sliceN]; omega
              · have HQ2 : Hid (V = (Q ++ [⟨Y.toArray⟩]) ++ dfG m d o P.data.toList (R.drop (k + P.size)) true) := by
                  show _ = _
                  have h := HVQ.out
                  rw [if_pos rfl, dfOne_b hun, if_neg (by rw [hY]; exact hy0), hY] at h
                  exact h
                obtain ⟨T, hT⟩ : ∃ T : ByteArray, T = ⟨Y.toArray⟩ := ⟨_, rfl⟩
                have hne1 : T.toList.isEmpty = false := by rw [hT, ByteArray.toList_eq]; cases Y with | nil => exact absurd rfl hy0 | cons y l => rfl
                rw [← hT] at HUX HQ2
                clear hun HUX0 HVQ hY hy0 hT
                have t0 := OB.out.drew
                have r0 := Lib.hid (RR.out.keep (Below.refl _ _).drew)
                have B6 := Lib.hid (BW.out.drew)
                obtain ⟨q0, q1, q2⟩ := df_keep t0 r0.out HKN.out HX.out
                go_wp2_with fail
                go_region_held3 (fun w' => w'.cell? ⟨w.heap.size, 0, none⟩ = some (.int .i64 (m : Int)) ∧ w'.cell? ⟨w.heap.size, 1, none⟩ = some (.int .i64 b) ∧ (convert 53 9 (.slice A k c)).run Try.prog w' = .ok (.string ⟨X.toArray⟩) w') ((first | with_reducible exact df_keep t7 r7.out HKN.out HX.out | with_reducible exact df_keep t0 r0.out HKN.out HX.out | fail))
                  (first
                    | (go_at_call 20; refine (HUX.out _).mono ?_; rintro e u7 ⟨rfl, hb7⟩; have t7 := t0.keep hb7; have r7 := Lib.hid (r0.out.keep hb7); have B7 := Lib.hid (B6.out.trans (hb7.mono B6.out.size)); have R7 := Lib.hid r7.out; have Q7 := Lib.hid (OwnT.keep (w := wr.drew) OQ.out hb7); have K7 := Lib.hid t7; have Z7 := Lib.hid (Nat.le_trans WZ.out hb7.size); obtain ⟨q0, q1, q2⟩ := df_keep t7 r7.out HKN.out HX.out; clear hb7)
                    | fail)
                clear q0 q1 q2 t0 t7 B6 r0 r7
                have hown : u7.ownsRow w3.heap.size 9 1 u8 Q.length (strVals Q) := Q7.out
                obtain ⟨Av, cv, rfl⟩ := ownt_shape hown
                go_wp2_with (at_builtin; refine wpList_append_own _ rfl _ _ 32 rfl w3.heap.size 9 i0 (.string ByteArray.empty) 1 16 Try.underlying32 hi hz0 hz1 hz2 rfl (by decide) _ _ _ rfl (hown.alloc _) ⟨u7.heap.size, 0, none⟩ 1 1 [.string T] rfl rfl ?_ ?_ ?_ ?_ ?_ ?_)
                all_goals first | exact c1_one _ _ _ | rfl | (intro u hu; simp at hu; subst hu; rfl) | (unfold maxLen; first | omega | (simp; omega)) | (first | omega | (simp; omega)) | (have := Z7.out; simp at this ⊢; omega) | skip
                intro v1 w9 hown1 hgrow1 _
                have hb9 := below_app (Below.refl w3.heap.size u7) Z7.out hown hgrow1
                have Q9 : Hid (OwnT w9 w3.heap.size v1 (Q ++ [T])) := by
                  show OwnT _ _ _ _
                  unfold OwnT; rw [List.length_append, ← strVals_snoc]; exact hown1
                have R9 := Lib.hid (rdv_below R7.out hb9 (fun b hb => by rw [hb]; exact HZ.out))
                have B9 := Lib.hid (B7.out.trans (hb9.mono B3.out.size))
                have K9 := Lib.hid (K7.out.below hb9 (Nat.lt_of_lt_of_le O3.out.lt (Nat.le_refl _)))
                have Z9 := Lib.hid (Nat.le_trans Z7.out hb9.size)
                clear hown hgrow1 hb9 hown1 Q7 R7 B7 K7 Z7
                have R8 : Hid (RdV (· = w2.heap.size) w9 (.slice (if c = k + P.size then A else A.map (·.add (k + P.size))) (R.length - (k + P.size)) (c - (k + P.size))) (byteVals (R.drop (k + P.size)))) := by
                  show RdV _ _ _ _
                  have h := R9.out.drop (k + P.size) (by rw [byteVals_length]; exact HKL.out)
                  rw [show (byteVals R).drop (k + P.size) = byteVals (R.drop (k + P.size)) from by simp [byteVals]] at h
                  exact h
                have hmW : Hid (∀ W, Below w9.heap.size w9 W → W.cell? ⟨0, 0, none⟩ = some (.int .i64 mx)) := by
                  show ∀ W, _
                  exact fun W hb => HMX.out W (B9.out.trans (hb.mono B9.out.size))
                have hinD : Hid (inR 48 49 (R.drop (k + P.size)) = true) := by
                  show _ = _
                  have h := HRI.out
                  rw [← List.take_append_drop (k + P.size) R, inR_append, Bool.and_eq_true_iff] at h
                  exact h.2
                have hlD : (R.drop (k + P.size)).length ≤ 400 := by rw [List.length_drop]; omega
                have HLD := Lib.hid hlD
                clear hlD R9
                go_wp2_with fail
                all_goals
                  have R8' := R8.out
                  first | rw [if_pos (by omega), show c - (k + P.size) = 0 from by omega] at R8' | rw [if_neg (by omega)] at R8'
                  refine (df_call2 w9 _ mx (· = w2.heap.size) _ (R.drop (k + P.size)) P hmW.out (by simpa using R8') HLD.out ⟨by omega, by omega⟩).mono ?_; rintro e wz ⟨rfl, hbz⟩
                  have RZ := Lib.hid (R8'.keep hbz)
                  have QZ := Lib.hid (Q9.out.keep hbz)
                  have KZ := Lib.hid (K9.out.keep hbz)
                  have BZ := Lib.hid (B9.out.trans (hbz.mono B9.out.size))
                  have ZZ := Lib.hid (Nat.le_trans Z9.out hbz.size)
                  clear hbz R8' R8
                  go_wp2_with fail
                  go_roundw
                  case rel => exact ⟨R.drop (k + P.size), Q ++ [T], true, rfl, rfl, HQ2.out, HLD.out, hinD.out, by simpa using RZ.out, QZ.out, KZ.out, BZ.out, ZZ.out⟩
                  case measure => simp [sliceN]; omega
        · have e1 : ix = -1 := by omega
          have hVQ := HSP.out e1
          have OWV : Hid (OwnT wr w.heap.size u8 V) := by
            show OwnT _ _ _ _
            rw [hVQ]; exact OQ.out.base B3.out.size
          clear hVQ
          go_wp2_with fail
          go_ret2
          exact ⟨_, rfl, OWV.out, BW.out⟩
end Go.Proofs.Ytllkojakeoennaa
