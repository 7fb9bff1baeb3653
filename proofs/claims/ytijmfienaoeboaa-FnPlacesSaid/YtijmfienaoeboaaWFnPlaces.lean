/- The walk of the law FnPlaces. -/
import Derived.Test.YtijmfienaoeboaaPlx
import Derived.Test.YtijmfienaoeboaaB10
import Derived.Deep.RegionHeld3
namespace Go.Proofs.Ytijmfienaoeboaa
open Go Go.RowKit
set_option linter.unusedVariables false

theorem rdv_keepP {w w' : World} {v : Value} {l : List Value} (h : RdV (· < w.heap.size) w v l) (hb : Below w.heap.size w w') : RdV (· < w'.heap.size) w' v l := by
  obtain ⟨A, n, c, e, hn, h1, h2, h3⟩ := h.keep hb
  refine ⟨A, n, c, e, hn, h1, h2, fun h0 => ?_⟩
  obtain ⟨b, o, ea, hK, hlt, hc⟩ := h3 h0
  exact ⟨b, o, ea, hlt, hlt, hc⟩
/-- A part of bits, and whether it is another one. -/
theorem part_eq (s p : ByteArray) (k : Nat) (h : k + p.size ≤ s.size) : ((s.extract k (k + p.size)).toList == p.toList) = Lib.occAt s.data.toList p.data.toList k := by
  rw [Lib.occAt_iff_take _ _ _ (by simpa using h), ByteArray.toList_eq, ByteArray.toList_eq, ByteArray.data_extract]
  simp [Array.toList_extract]
theorem cntO_hit (s p : List UInt8) (f k : Nat) (h : f ≤ k) (hn : ∀ j, f ≤ j → j < k → Lib.occAt s p j = false) (hk : Lib.occAt s p k = true) : cntO s p (k + 1) = cntO s p f + 1 := by
  rw [cntO, cntO_skip s p f k h hn, if_pos hk]

set_option maxHeartbeats 4000000 in
set_option maxRecDepth 100000 in
theorem law_FnPlaces (v0 : Value) (l0 : List Value) (k0 : ∀ x ∈ l0, ∃ y : Int, x = .int .u8 y ∧ 0 ≤ y ∧ y ≤ 255) (v1 : Value) (l1 : List Value) (k1 : ∀ x ∈ l1, ∃ y : Int, x = .int .u8 y ∧ 0 ≤ y ∧ y ≤ 255) (w : World) (mx : Int) (hmx : w.cell? ⟨0, 0, none⟩ = some (.int .i64 mx)) (r0 : RdV (· < w.heap.size) w v0 l0) (r1 : RdV (· < w.heap.size) w v1 l1) :
    Calls Try.prog 12 #[v0, v1] w fun e w' => e = .returned (.bool true) ∧ Below w.heap.size w w' := by
  obtain ⟨i0, hi, hz0, hz1, hz2⟩ := info_parts Try.infoInt
  have HR0 := Lib.hid r0
  have HR1 := Lib.hid r1
  have HK0 := Lib.hid k0
  have HK1 := Lib.hid k1
  have HMX : Hid (∀ W, Below w.heap.size w W → W.cell? ⟨0, 0, none⟩ = some (.int .i64 mx)) := by
    show ∀ W, Below w.heap.size w W → _
    exact fun W hb => (hb.cell (World.block_lt_of_cell? w _ hmx)).trans hmx
  clear hmx
  obtain ⟨A0, n0, c0, rfl, hn0, -⟩ := r0
  obtain ⟨A1, n1, c1, rfl, hn1, -⟩ := r1
  clear k0 k1 hn0 hn1
  have HL := Lib.hid (fun W => b10Long_any W A0 A1 n0 c0 n1 c1)
  by_cases hz : 1048576 < n0 ∨ 1048576 < n1
  · have hz' : (decide (1048576 < n0) || decide (1048576 < n1)) = true := by rcases hz with h | h <;> simp [h]
    rw [hz'] at HL
    clear hz hz'
    go_enter Try.func12, Try.ntmps12
    go_wp2_with fail
    refine (HL.out _).mono ?_; rintro e w1 ⟨rfl, q, rfl⟩
    go_wp2_with fail
    go_ret
    exact ⟨rfl, below_drewN (Below.refl _ _) q⟩
  · have hz' : (decide (1048576 < n0) || decide (1048576 < n1)) = false := by simp; omega
    rw [hz'] at HL
    clear hz hz'
    have HAT : Hid (∀ (k t : Nat), 2 ≤ t ∧ t ≤ 1000000 → k ≤ 1000000 → ∃ a : Int, (0 ≤ a ∧ a < t) ∧ ∀ W, Below w.heap.size w W → Calls Try.prog 48 #[.slice A1 n1 c1, .int .i64 (k : Int), .int .i64 (t : Int)] W fun e w' => e = .returned (.int .i64 a) ∧ W = w') := by
      show ∀ k t, _
      intro k t ht hk
      have h0 : 0 ≤ b10N l1 k t ∧ b10N l1 k t < t := by
        unfold b10N
        split <;> (constructor <;> first | omega | exact Int.emod_nonneg _ (by omega) | exact Int.emod_lt_of_pos _ (by omega))
      refine ⟨b10N l1 k t, h0, fun W hb => ?_⟩
      exact (b10At_any W _ l1 k t ht hk (HR1.out.keep hb) HK1.out).mono fun e w' ⟨he, _, hw⟩ => ⟨he, hw⟩
    obtain ⟨N', ⟨N0, N1⟩, hN⟩ := HAT.out 1 6 (by decide) (by decide)
    obtain ⟨N, rfl⟩ := Int.eq_ofNat_of_zero_le N0
    have HN : Hid (∀ W, Below w.heap.size w W → Calls Try.prog 48 #[.slice A1 n1 c1, .int .i64 1, .int .i64 6] W fun e w' => e = .returned (.int .i64 (N : Int)) ∧ W = w') := hN
    have hN5 : N ≤ 5 := by omega
    clear hN N0 N1
    go_enter Try.func12, Try.ntmps12
    go_wp2_with fail
    refine (HL.out _).mono ?_; rintro e w1 ⟨rfl, q, rfl⟩
    have B1 : Hid (Below w.heap.size w (w.drewN q)) := below_drewN (Below.refl _ _) q
    go_wp2_with fail
    refine (b10Bits_any _ _ _ (rdv_keepP HR0.out B1.out) HK0.out).mono ?_; rintro e w2 ⟨L, rfl, ⟨hL1, hL2⟩, hb2⟩
    have B2 := Lib.hid (B1.out.trans (hb2.mono B1.out.size))
    clear hb2 B1
    obtain ⟨X, hX⟩ : ∃ X : ByteArray, X = ⟨L.toArray⟩ := ⟨_, rfl⟩
    rw [← hX]
    have hXb : isB X.data.toList = true := by
      rw [hX]; unfold isB
      rw [show (⟨L.toArray⟩ : ByteArray).data.toList = L from rfl, hL2, decide_eq_true (show L.length ≤ 400 by omega)]; rfl
    have hX40 : X.size ≤ 40 := by rw [hX]; simpa [ByteArray.size] using hL1
    clear hX hL1 hL2
    go_wp2_with fail
    refine (b10Short_any _ _ _ (rdv_keepP HR1.out B2.out) HK1.out).mono ?_; rintro e w3 ⟨P, rfl, hP, hb3⟩
    have B3 := Lib.hid (B2.out.trans (hb3.mono B2.out.size))
    obtain ⟨hPb, hPn, hP4⟩ := shorts_ok P hP
    have hcb : cbi X.data.toList P.data.toList = true := by
      unfold cbi; rw [hXb, hPb]
      cases e : P.data.toList with
      | nil => exact absurd e hPn
      | cons a t => rfl
    have HCB := Lib.hid hcb
    have HPN := Lib.hid hPn
    have HXL : Hid (X.data.toList.length = X.size) := by show _ = _; simp
    have HPL : Hid (P.data.toList.length = P.size) := by show _ = _; simp
    clear hb3 B2 hP hPb hPn hcb hXb
    go_wp2_with fail
    refine (countBits_impl X P mx _ (HMX.out _ B3.out) HCB.out).mono ?_; rintro e w4 ⟨rfl, hb4⟩
    have B4 := Lib.hid (B3.out.trans (hb4.mono B3.out.size))
    clear hb4 B3
    go_wp2_with fail
    go_loopw [9, 10] (fun nn ff wr => ∃ f : Nat, f ≤ X.size ∧ ff = .int .i64 (f : Int) ∧ nn = .int .i64 (cntO X.data.toList P.data.toList f) ∧ Below w.heap.size w wr) (fun _ ff _ => X.size + 1 - (intOf ff).toNat)
    case atStart => exact ⟨0, Nat.zero_le _, rfl, rfl, B4.out⟩
    case round =>
      obtain ⟨f, hf, rfl, rfl, hb⟩ := hrel
      have HB := Lib.hid hb
      clear hb B4
      obtain ⟨ix1, ix2⟩ := index_le X.data.toList P.data.toList f (by have := HXL.out; omega)
      have HFB := Lib.hid (fun W h => findBits_impl X P f mx W h (by omega) (by omega) HCB.out hf (Lib.index (X.data.toList.drop f) P.data.toList) rfl ix1 ix2)
      have hcase := findFrom_cases X.data.toList P.data.toList f (by have := HXL.out; omega) HPN.out
      obtain ⟨cb0, cb1⟩ := cntO_bd X.data.toList P.data.toList f
      rcases hcase with ⟨hm1, hnone⟩ | ⟨k, hk, hfk, hkl, hocc, hnb⟩
      · have hidx := find_m1 hm1
        rw [hidx] at HFB
        have HCT : Hid (cntO X.data.toList P.data.toList X.size = cntO X.data.toList P.data.toList f) := by show _ = _; exact cntO_skip _ _ f X.size hf (fun j h1 _ => hnone j h1)
        clear hidx hm1 hnone ix1 ix2
        have e1 : fbV f (-1) = 0 := rfl
        have e2 : fbF (-1) = false := rfl
        rw [e1, e2] at HFB
        clear e1 e2
        go_wp2_with fail
        refine (HFB.out _ (HMX.out _ HB.out)).mono ?_; rintro e w5 ⟨rfl, hb5⟩
        have B5 := Lib.hid (HB.out.trans (hb5.mono HB.out.size))
        clear hb5 HB HFB
        have s1 : (cntO X.data.toList P.data.toList f == cntO X.data.toList P.data.toList X.size) = true := by rw [HCT.out]; exact beq_t rfl
        generalize cntO X.data.toList P.data.toList f = cf at *
        generalize cntO X.data.toList P.data.toList X.size = cs at *
        have S1 := Lib.hid s1
        clear s1 HCT
        go_wp2_with fail
        have HO0 : Hid ((w5.alloc (.cells #[] 2)).ownsRow w.heap.size 2 1 (.slice (some ⟨w5.heap.size, 0, none⟩) 0 0) ([] : List Int).length (intVals [])) := by
          show World.ownsRow _ _ _ _ _ _ _
          exact World.ownsRow_made w5 #[] 0 B5.out.size (by decide) rfl
        have HB0 : Hid (Below w.heap.size w (w5.alloc (.cells #[] 2))) := B5.out.alloc B5.out.size _
        go_loopw [14, 15] (fun bb i wr => ∃ (k : Nat) (bs : List Int), k ≤ N ∧ i = .int .i64 k ∧ bs.length = k ∧ (∀ x ∈ bs, 0 ≤ x ∧ x ≤ 255) ∧ wr.ownsRow w.heap.size 2 1 bb bs.length (intVals bs) ∧ Below w.heap.size w wr) (fun _ i _ => N - (intOf i).toNat)
        case atStart => exact ⟨0, [], Nat.zero_le _, rfl, rfl, by simp, HO0.out, HB0.out⟩
        case round =>
          obtain ⟨k, bs, hk, rfl, hbl, hall, hown, hb⟩ := hrel
          have HO := Lib.hid hown
          have HB := Lib.hid hb
          have HA := Lib.hid hall
          have HBL := Lib.hid hbl
          clear hown hb hall hbl HO0 HB0 B5
          obtain ⟨Av, cv, hAv⟩ := own_shape HO.out
          subst hAv
          go_wp2_with fail
          refine (HN.out _ HB.out).mono ?_; rintro e w' ⟨rfl, rfl⟩
          by_cases hlt : k < N
          · obtain ⟨a, ⟨a0, a1⟩, ha⟩ := HAT.out (k + 2) 256 (by decide) (by omega)
            rw [show ((k + 2 : Nat) : Int) = (k : Int) + 2 from by omega] at ha
            have HV : Hid (∀ W, Below w.heap.size w W → Calls Try.prog 48 #[.slice A1 n1 c1, .int .i64 ((k : Int) + 2), .int .i64 256] W fun e w' => e = .returned (.int .i64 a) ∧ W = w') := ha
            have hlt' : (k : Int) < (N : Int) := by omega
            have hb6 : bs.length ≤ 5 := by have := HBL.out; omega
            clear ha
            go_wp2_with fail
            refine (HV.out _ HB.out).mono ?_; rintro e w' ⟨rfl, rfl⟩
            have hrow := HO.out
            go_wp2_with (at_builtin; refine wpList_append_own _ rfl _ _ 32 rfl w.heap.size 2 i0 (.int .i64 0) 1 8 Try.underlying32 hi hz0 hz1 hz2 rfl (by decide) _ _ _ rfl (World.ownsRow.alloc hrow _) ⟨wr.heap.size, 0, none⟩ 1 1 [.int .i64 a] rfl rfl ?c1 ?c2 ?c3 ?c4 ?c5 ?_)
            case c1 => exact c1_one _ _ _
            case c2 => intro u hu; simp at hu; subst hu; rfl
            case c3 => unfold maxLen; omega
            case c4 => omega
            case c5 => have := HB.out.size; simp; omega
            intro v' w6 hown' hgrow _
            have HB6 := Lib.hid (below_app HB.out HB.out.size hrow hgrow)
            have HO6 : Hid (w6.ownsRow w.heap.size 2 1 v' (bs ++ [a]).length (intVals (bs ++ [a]))) := by
              show World.ownsRow _ _ _ _ _ _ _
              rw [List.length_append, ← intVals_snoc]
              exact hown'
            clear hgrow hown' hrow
            go_wp2_with fail
            go_roundw
            case rel => exact ⟨k + 1, bs ++ [a], by omega, by go_num, by simp; exact HBL.out, fun x hx => by
              rcases List.mem_append.1 hx with h | h
              · exact HA.out x h
              · simp at h; subst h; omega, HO6.out, HB6.out⟩
            case measure => simp [intOf]; omega
          · have hlt' : ¬ (k : Int) < (N : Int) := by omega
            have hbk := by_ok (l := bs) (by have := HBL.out; omega) HA.out
            obtain ⟨e1, e2, e3, e4, e5⟩ := by_back bs hbk
            have HBY := Lib.hid (fun W h => by_impl W (.slice Av bs.length cv) bs h (fun x hx => by have := HA.out x hx; omega))
            have HBB := Lib.hid (fun W => bob_impl (byV bs) W (by rw [e2]; unfold maxLen; omega))
            rw [hbk] at HBY
            rw [e3, e4] at HBB
            have t1 : (((byV bs).size : Int) == 8 * (bs.length : Int)) = true := beq_t (by omega)
            have t2 : (byV bs).size ≤ 400 := by omega
            have HRD : Hid (Rd wr (.slice Av bs.length cv) bs) := (show Own wr w.heap.size _ bs from HO.out).rd
            clear hbk e1 e2 e3 e4
            generalize byV bs = Y at *
            have s1 := S1.out
            go_wp2_with fail
            refine (HBY.out _ HRD.out).mono ?_; rintro e w6 ⟨rfl, hb6⟩
            have B6 := Lib.hid (HB.out.trans (hb6.mono HB.out.size))
            have R6 := Lib.hid (HRD.out.keep hb6)
            clear hb6 HB HRD
            go_wp2_with fail
            refine (HBB.out _).mono ?_; rintro e w7 ⟨bv, rfl, ho7, hb7⟩
            have B7 := Lib.hid (B6.out.trans (hb7.mono B6.out.size))
            have R7 := Lib.hid (R6.out.keep hb7)
            have O7 := Lib.hid ho7.rd
            clear hb7 ho7 B6 R6
            have HNU := Lib.hid (b10Nums_any w7 bv (.slice Av bs.length cv) bs bs O7.out R7.out)
            rw [decide_eq_true (show bs = bs from rfl)] at HNU
            go_wp2_with fail
            refine HNU.out.mono ?_; rintro e w8 ⟨rfl, q8, rfl⟩
            go_wp2_with fail
            go_ret
            exact ⟨rfl, below_drewN B7.out q8⟩
      · obtain ⟨q1, q2⟩ := find_k hk
        generalize Lib.index (X.data.toList.drop f) P.data.toList = r at *
        have e1 : fbV f r = (k : Int) := by unfold fbV; rw [if_neg (by omega)]; exact q2
        have e2 : fbF r = true := decide_eq_true q1
        rw [e1, e2] at HFB
        have hroom : k + P.size ≤ X.size := by
          rcases Lib.occAt_room hocc with h | h
          · have := HXL.out; have := HPL.out; omega
          · exact absurd h HPN.out
        have hpe := part_eq X P k hroom
        rw [hocc] at hpe
        have hpz : 1 ≤ P.size := by
          have := HPL.out
          cases e : P.data.toList with
          | nil => exact absurd e HPN.out
          | cons a t => rw [e] at this; simp at this; omega
        have HC1 := Lib.hid (cntO_hit X.data.toList P.data.toList f k hfk hnb hocc)
        have HNB := Lib.hid hnb
        have HPE := Lib.hid hpe
        clear e1 e2 q1 q2 ix1 ix2 hk hocc hnb hpe hkl
        have k0 : (0 : Int) ≤ (k : Int) := by omega
        have k1 : (k : Int) ≤ (k : Int) + (P.size : Int) := by omega
        have k2 : ((k : Int) + (P.size : Int)).toNat = k + P.size := by omega
        have k3 : (k : Int) + (P.size : Int) ≤ (X.size : Int) := by omega
        have k4 : ¬ (X.size : Int) < (k : Int) + (P.size : Int) := by omega
        have k5 : decide ((k : Int) < (f : Int)) = false := decide_eq_false (by omega)
        have k6 : decide (k < f) = false := decide_eq_false (by omega)
        have hpe := HPE.out
        go_wp2_with fail
        refine (HFB.out _ (HMX.out _ HB.out)).mono ?_; rintro e w5 ⟨rfl, hb5⟩
        have B5 := Lib.hid (HB.out.trans (hb5.mono HB.out.size))
        clear hb5 HB HFB
        go_wp2_with fail
        clear k1 k2 k4 k5 k6 hpe
        go_loop [13] (fun i => ∃ j : Nat, f ≤ j ∧ j ≤ k ∧ i = .int .i64 (j : Int)) (fun i => k - (intOf i).toNat)
        case atStart => exact ⟨f, Nat.le_refl _, hfk, rfl⟩
        case round =>
          obtain ⟨j, j0, j1, rfl⟩ := hrel
          by_cases hjk : j < k
          · have hq := part_eq X P j (by omega)
            rw [HNB.out j j0 hjk] at hq
            have t0 : (0 : Int) ≤ (j : Int) := by omega
            have t1 : (j : Int) ≤ (j : Int) + (P.size : Int) := by omega
            have t2 : ((j : Int) + (P.size : Int)).toNat = j + P.size := by omega
            have t3 : (j : Int) + (P.size : Int) ≤ (X.size : Int) := by omega
            have t4 : (j : Int) < (k : Int) := by omega
            go_wp2_with fail
            go_round
            case rel => exact ⟨j + 1, by omega, by omega, by go_num⟩
            case measure => simp [intOf]; omega
          · have t4 : ¬ (j : Int) < (k : Int) := by omega
            go_wp2_with fail
            go_roundw
            case rel => exact ⟨k + 1, by omega, by go_num, by rw [HC1.out], B5.out⟩
            case measure => simp [intOf]; omega
end Go.Proofs.Ytijmfienaoeboaa
