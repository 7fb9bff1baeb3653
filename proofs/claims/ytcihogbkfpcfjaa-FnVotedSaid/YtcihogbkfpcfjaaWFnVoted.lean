/- The walk of the law FnVoted. -/
import Derived.Test.YtcihogbkfpcfjaaVoi
import Derived.Test.YtcihogbkfpcfjaaB10
namespace Go.Proofs.Ytcihogbkfpcfjaa
open Go Go.RowKit
set_option linter.unusedVariables false

theorem rdv_keepB {w w' : World} {v : Value} {l : List Value} (h : RdV (· < w.heap.size) w v l) (hb : Below w.heap.size w w') : RdV (· < w'.heap.size) w' v l := by
  obtain ⟨A, n, c, e, hn, h1, h2, h3⟩ := h.keep hb
  refine ⟨A, n, c, e, hn, h1, h2, fun h0 => ?_⟩
  obtain ⟨b, o, ea, hK, hlt, hc⟩ := h3 h0
  exact ⟨b, o, ea, hlt, hlt, hc⟩
/-- A text made a row, at which bytes can be written. -/
theorem bent_new (W : World) (s : ByteArray) : Bk (W.drew.alloc (.cells (rowB W s) 5 (markB W s))) W.heap.size (byteVals s.data.toList) := by
  refine ⟨fun i x hx => ?_, fun i hi => ?_, by simp⟩
  · obtain ⟨hi, rfl⟩ := byteVals_at _ _ _ hx
    have hi' : i < s.size := by simpa using hi
    have := World.cell?_alloc_mark W.drew (rowB W s) 5 (markB W s) i
    rw [show W.drew.heap.size = W.heap.size from rfl] at this
    rw [this, rowB_at W s i hi']
    rfl
  · have hi' : i < s.size := by simpa [byteVals] using hi
    have e : (W.drew.alloc (.cells (rowB W s) 5 (markB W s))).heap[W.heap.size]? = some (.cells (rowB W s) 5 (markB W s)) := by
      show (W.heap.push _)[W.heap.size]? = _
      simp
    have hsz : s.size ≤ (rowB W s).size := by unfold rowB bytesRow; simp
    unfold World.frozen?
    rw [e]
    unfold markB
    simp
    intro h; omega
/-- What the law leaves of repeated bits: the bytes behind the middle of each block. -/
def VG (L M : List UInt8) (T N : Nat) : Prop := M.length = N ∧ inR 48 49 M = true ∧ ∀ i (hi : i < L.length) k, T / 2 ≤ k → k < T → M[i * T + k]? = some L[i]
theorem vg_start {L : List UInt8} (T : Nat) (h : inR 48 49 L = true) : VG L (rpL L T) T (L.length * T) :=
  ⟨rpL_len _ _, rpL_inR _ _ _ _ h, fun i hi k _ hk => rpL_at L T i k hk hi⟩
theorem vg_set {L M : List UInt8} {T N i k : Nat} (h : VG L M T N) (hk : k < T / 2) (d : UInt8) (hd : 48 ≤ (d.toNat : Int) ∧ (d.toNat : Int) ≤ 49) : VG L (M.set (i * T + k) d) T N := by
  obtain ⟨h1, h2, h3⟩ := h
  refine ⟨by rw [List.length_set]; exact h1, ?_, fun i' hi' k' ha hb => ?_⟩
  · unfold inR at *
    rw [List.all_eq_true] at *
    intro x hx
    rcases List.mem_or_eq_of_mem_set hx with hx | rfl
    · exact h2 x hx
    · exact decide_eq_true hd
  · rw [List.getElem?_set_ne]
    · exact h3 i' hi' k' ha hb
    · intro e
      have e1 : (i * T + k) % T = k := by rw [Nat.mul_comm, Nat.mul_add_mod, Nat.mod_eq_of_lt (by omega)]
      have e2 : (i' * T + k') % T = k' := by rw [Nat.mul_comm, Nat.mul_add_mod, Nat.mod_eq_of_lt hb]
      rw [e] at e1
      omega
theorem vg_end {L M : List UInt8} {T N : Nat} (h : VG L M T N) (hN : N = L.length * T) (h4 : N ≤ 400) (ht : 1 ≤ T ∧ T ≤ 15 ∧ T % 2 = 1) (hL : inR 48 49 L = true) : voOk M T = true ∧ voV M T = ⟨L.toArray⟩ := by
  obtain ⟨h1, h2, h3⟩ := h
  have hb : isB M = true := by unfold isB; rw [h2, decide_eq_true (by omega)]; rfl
  have hv : vtB T = true := by unfold vtB; rw [decide_eq_true (by omega), decide_eq_true (by omega)]; rfl
  have hm : (M.length : Int) % (T : Int) = 0 := by
    rw [h1, hN]
    have : (((L.length * T) % T : Nat) : Int) = ((L.length * T : Nat) : Int) % (T : Int) := Int.natCast_emod _ _
    rw [← this, Nat.mul_mod_left]; rfl
  have ho := vo_yes hb hv hm
  refine ⟨ho, ?_⟩
  rw [voV_yes ho, Int.toNat_natCast, h1, hN, Nat.mul_div_cancel _ (by omega), votes_back ht.2.2 hL (by rw [h1, hN]) h3]
theorem byte_flip (c : UInt8) (h : 48 ≤ (c.toNat : Int) ∧ (c.toNat : Int) ≤ 49) : ∃ d : UInt8, (d.toNat : Int) = 97 - (c.toNat : Int) ∧ 48 ≤ (d.toNat : Int) ∧ (d.toNat : Int) ≤ 49 := by
  obtain ⟨d, hd⟩ := byte_num (97 - (c.toNat : Int)) (by omega) (by omega)
  exact ⟨d, hd, by omega, by omega⟩
theorem inR_get {M : List UInt8} (h : inR 48 49 M = true) (j : Nat) (hj : j < M.length) : 48 ≤ (M[j].toNat : Int) ∧ (M[j].toNat : Int) ≤ 49 := by
  unfold inR at h
  rw [List.all_eq_true] at h
  exact of_decide_eq_true (h _ (List.getElem_mem hj))
theorem vals_set (M : List UInt8) (j : Nat) (d : UInt8) : (byteVals M).set j (.int .u8 (d.toNat : Int)) = byteVals (M.set j d) := by
  unfold byteVals
  rw [List.map_set]

set_option maxHeartbeats 4000000 in
set_option maxRecDepth 100000 in
theorem law_FnVoted (v0 : Value) (l0 : List Value) (k0 : ∀ x ∈ l0, ∃ y : Int, x = .int .u8 y ∧ 0 ≤ y ∧ y ≤ 255) (v1 : Value) (l1 : List Value) (k1 : ∀ x ∈ l1, ∃ y : Int, x = .int .u8 y ∧ 0 ≤ y ∧ y ≤ 255) (w : World) (r0 : RdV (· < w.heap.size) w v0 l0) (r1 : RdV (· < w.heap.size) w v1 l1) :
    Calls Try.prog 14 #[v0, v1] w fun e w' => e = .returned (.bool true) ∧ Below w.heap.size w w' := by
  have HR0 := Lib.hid r0
  have HR1 := Lib.hid r1
  have HK0 := Lib.hid k0
  have HK1 := Lib.hid k1
  obtain ⟨A0, n0, c0, rfl, hn0, -⟩ := r0
  obtain ⟨A1, n1, c1, rfl, hn1, -⟩ := r1
  clear k0 k1 hn0 hn1
  have HL := Lib.hid (fun W => b10Long_any W A0 A1 n0 c0 n1 c1)
  by_cases hz : 1048576 < n0 ∨ 1048576 < n1
  · have hz' : (decide (1048576 < n0) || decide (1048576 < n1)) = true := by rcases hz with h | h <;> simp [h]
    rw [hz'] at HL
    clear hz hz'
    go_enter Try.func14, Try.ntmps14
    go_wp2_with fail
    refine (HL.out _).mono ?_; rintro e w1 ⟨rfl, q, rfl⟩
    go_wp2_with fail
    go_ret
    exact ⟨rfl, below_drewN (Below.refl _ _) q⟩
  · have hz' : (decide (1048576 < n0) || decide (1048576 < n1)) = false := by simp; omega
    rw [hz'] at HL
    clear hz hz'
    have HAT1 : Hid (∀ (k t : Nat), 2 ≤ t ∧ t ≤ 1000000 → k ≤ 1000000 → ∃ a : Int, (0 ≤ a ∧ a < t) ∧ ∀ W, Below w.heap.size w W → Calls Try.prog 35 #[.slice A1 n1 c1, .int .i64 (k : Int), .int .i64 (t : Int)] W fun e w' => e = .returned (.int .i64 a) ∧ W = w') := by
      show ∀ k t, _
      intro k t ht hk
      have h0 : 0 ≤ b10N l1 k t ∧ b10N l1 k t < t := by
        unfold b10N
        split <;> (constructor <;> first | omega | exact Int.emod_nonneg _ (by omega) | exact Int.emod_lt_of_pos _ (by omega))
      refine ⟨b10N l1 k t, h0, fun W hb => ?_⟩
      exact (b10At_any W _ l1 k t ht hk (HR1.out.keep hb) HK1.out).mono fun e w' ⟨he, _, hw⟩ => ⟨he, hw⟩
    obtain ⟨x0, ⟨x00, x01⟩, hx0⟩ := HAT1.out 0 4 (by decide) (by decide)
    have HX0 : Hid (∀ W, Below w.heap.size w W → Calls Try.prog 35 #[.slice A1 n1 c1, .int .i64 0, .int .i64 4] W fun e w' => e = .returned (.int .i64 x0) ∧ W = w') := hx0
    obtain ⟨T, hT⟩ : ∃ T : Nat, (T : Int) = 1 + 2 * x0 := ⟨(1 + 2 * x0).toNat, by omega⟩
    have wa : IntKind.i64.wrap (2 * x0) = 2 * x0 := IntWalk.i64_in _ (by omega)
    have wb : IntKind.i64.wrap (1 + 2 * x0) = (T : Int) := by rw [hT]; exact IntWalk.i64_in _ (by omega)
    have hT15 : 1 ≤ T ∧ T ≤ 15 ∧ T % 2 = 1 := by omega
    have hT7 : T ≤ 7 := by omega
    obtain ⟨H, hH⟩ : ∃ H : Nat, H = T / 2 := ⟨_, rfl⟩
    have hH2 : (T : Int) / 2 = (H : Int) := by omega
    clear hx0 hT x00 x01
    go_enter Try.func14, Try.ntmps14
    go_wp2_with fail
    refine (HL.out _).mono ?_; rintro e w1 ⟨rfl, q, rfl⟩
    have B1 : Hid (Below w.heap.size w (w.drewN q)) := below_drewN (Below.refl _ _) q
    go_wp2_with fail
    refine (b10Bits_any _ _ _ (rdv_keepB HR0.out B1.out) HK0.out).mono ?_; rintro e w2 ⟨L, rfl, ⟨hL40, hLin⟩, hb2⟩
    have B2 := Lib.hid (B1.out.trans (hb2.mono B1.out.size))
    clear hb2 B1
    go_wp2_with fail
    refine (HX0.out _ B2.out).mono ?_; rintro e w' ⟨rfl, rfl⟩
    have hLs : ((⟨L.toArray⟩ : ByteArray).size : Nat) = L.length := by show L.toArray.size = _; simp
    have hmul : L.length * T ≤ 400 := by have := Nat.mul_le_mul hL40 hT7; omega
    have hLB : isB L = true := by unfold isB; rw [hLin, decide_eq_true (by omega)]; rfl
    have hvt : vtB T = true := by unfold vtB; rw [decide_eq_true (by omega), decide_eq_true (by omega)]; rfl
    have hcm : ((L.length * T : Nat) : Int) = (L.length : Int) * (T : Int) := Int.natCast_mul _ _
    have hro : rpOk L T = true := rp_yes hLB hvt (by omega)
    have HRI := Lib.hid (fun W => repeat_impl ⟨L.toArray⟩ (T : Int) W (by rw [hLs]; unfold maxLen; omega))
    rw [show (⟨L.toArray⟩ : ByteArray).data.toList = L from rfl, hro, rpV_yes hro, Int.toNat_natCast] at HRI
    obtain ⟨V, hV⟩ : ∃ V : ByteArray, V = ⟨(rpL L T).toArray⟩ := ⟨_, rfl⟩
    obtain ⟨N, hN⟩ : ∃ N, N = L.length * T := ⟨_, rfl⟩
    have hVl : V.data.toList = rpL L T := by rw [hV]
    have hVs : V.size = N := by rw [hN, ← rpL_len, ← hVl]; rfl
    rw [← hV] at HRI
    have HVG : Hid (VG L (rpL L T) T N) := by show VG _ _ _ _; rw [hN]; exact vg_start T hLin
    have hcv := fun W => convB W V
    have wm : IntKind.i64.wrap ((T : Int) * (L.length : Int)) = (N : Int) := by rw [hN, hcm, Int.mul_comm]; exact IntWalk.i64_in _ (by omega)
    have HNE := Lib.hid hN
    clear hLB hvt hro hV hcm hN
    go_wp2_with fail
    refine (HRI.out _).mono ?_; rintro e w3 ⟨rfl, hb3⟩
    have B3 := Lib.hid (B2.out.trans (hb3.mono B2.out.size))
    clear hb3 B2 HRI wa wb
    have HBN : Hid (Bk ((w3.alloc (.cells (rowB w3 V) 5 (markB w3 V))).drew) w3.heap.size (byteVals (rpL L T))) := by
      show Bk _ _ _
      rw [← hVl]; exact bent_new w3 V
    have B4 : Hid (Below w.heap.size w ((w3.alloc (.cells (rowB w3 V) 5 (markB w3 V))).drew)) := (B3.out.alloc B3.out.size _).drew
    have HLR := B3.out.size
    go_wp2_with fail
    generalize (w3.alloc (.cells (rowB w3 V) 5 (markB w3 V))).drew = w4 at *
    generalize capB w3 V = cb at *
    generalize w3.heap.size = R at *
    clear B3 hcv hVl hVs
    have hN := HNE.out
    clear HNE
    have HIN : Hid (∀ i, i < L.length → i * T + T ≤ N) := by
      show ∀ _, _
      intro i hi
      have := Nat.mul_le_mul_right T (show i + 1 ≤ L.length by omega)
      rw [Nat.succ_mul] at this; omega
    have HEND := Lib.hid (fun M (h : VG L M T N) => vg_end h hN (by omega) hT15 hLin)
    have hN4 : N ≤ 400 := by omega
    have HH := Lib.hid hH
    clear hN hH hLin wm hmul
    go_loopw [10] (fun i wr => ∃ (k : Nat) (M : List UInt8), k ≤ L.length ∧ i = .int .i64 k ∧ VG L M T N ∧ Bk wr R (byteVals M) ∧ Below w.heap.size w wr) (fun i _ => L.length - (intOf i).toNat)
    case atStart => exact ⟨0, _, Nat.zero_le _, rfl, HVG.out, HBN.out, B4.out⟩
    case round =>
      obtain ⟨i, M, hi, rfl, hvg, hbk, hb⟩ := hrel
      have HV := Lib.hid hvg
      have HK := Lib.hid hbk
      have HB := Lib.hid hb
      clear hvg hbk hb HVG HBN B4
      by_cases hlt : i < L.length
      · have hh := HIN.out i hlt
        obtain ⟨I1, hI1⟩ : ∃ I1 : Nat, I1 = i + 1 := ⟨_, rfl⟩
        obtain ⟨y, ⟨y0, y1⟩, hy⟩ := HAT1.out I1 2 (by decide) (by omega)
        have HY : Hid (∀ W, Below w.heap.size w W → Calls Try.prog 35 #[.slice A1 n1 c1, .int .i64 (I1 : Int), .int .i64 2] W fun e w' => e = .returned (.int .i64 y) ∧ W = w') := hy
        have wi : IntKind.i64.wrap ((i : Int) + 1) = (I1 : Int) := by rw [hI1]; exact IntWalk.i64_in _ (by omega)
        obtain ⟨P, hP⟩ : ∃ P : Nat, P = i * T := ⟨_, rfl⟩
        have wp : IntKind.i64.wrap ((i : Int) * (T : Int)) = (P : Int) := by rw [hP, Int.natCast_mul]; exact IntWalk.i64_in _ (by have : ((i * T : Nat) : Int) = (i : Int) * (T : Int) := Int.natCast_mul _ _; omega)
        rw [← hP] at hh
        have HP := Lib.hid hP
        have HI1 := Lib.hid hI1
        have HIL := Lib.hid hlt
        have hlt' : (i : Int) < (L.length : Int) := by omega
        clear hy HAT1 HIN HEND hP hI1 hlt
        go_wp2_with fail
        go_loopw [11] (fun j wr => ∃ (q : Nat) (M : List UInt8), q ≤ H ∧ j = .int .i64 q ∧ VG L M T N ∧ Bk wr R (byteVals M) ∧ Below w.heap.size w wr) (fun j _ => H - (intOf j).toNat)
        case atStart => exact ⟨0, _, Nat.zero_le _, rfl, HV.out, HK.out, HB.out⟩
        case round =>
          clear HV HK HB
          obtain ⟨q, M, hq, rfl, hvg, hbk, hb⟩ := hrel
          have HV := Lib.hid hvg
          have HK := Lib.hid hbk
          have HB := Lib.hid hb
          clear hbk hb
          by_cases hlt : q < H
          · have hqi : (q : Int) < (H : Int) := by omega
            have hqT : q < T := by have := HH.out; omega
            obtain ⟨Z, hZ⟩ : ∃ Z : Nat, Z = P + q := ⟨_, rfl⟩
            have hZN : Z < M.length := by rw [hvg.1]; omega
            have wz : IntKind.i64.wrap ((P : Int) + (q : Int)) = (Z : Int) := by rw [IntWalk.i64_in _ (by omega)]; omega
            have z0 : (0 : Int) ≤ (Z : Int) := by omega
            have z1 : (Z : Int) < (N : Int) := by omega
            obtain ⟨d, hd, hd1⟩ := byte_flip M[Z] (inR_get hvg.2.1 Z hZN)
            have hcell := HK.out.c Z (.int .u8 (M[Z].toNat : Int)) (by unfold byteVals; rw [List.getElem?_map, List.getElem?_eq_getElem hZN]; rfl)
            have hfz := HK.out.f Z (by unfold byteVals; rw [List.length_map]; exact hZN)
            have HVS : Hid (VG L (M.set Z d) T N) := by
              show VG _ _ _ _
              rw [hZ, HP.out]; exact vg_set hvg (by rw [← HH.out]; exact hlt) d hd1
            have HKS := Lib.hid (fun W (h : Bk W R (byteVals M)) => h.set Z (by unfold byteVals; rw [List.length_map]; exact hZN) (.int .u8 (d.toNat : Int)))
            rw [vals_set] at HKS
            have hin := inR_get hvg.2.1 Z hZN
            obtain ⟨c, hc⟩ : ∃ c : Int, c = (M[Z].toNat : Int) := ⟨_, rfl⟩
            rw [← hc] at hcell hd hin
            have wu : IntKind.u8.wrap (97 - c) = (d.toNat : Int) := by rw [hd]; exact IntWalk.u8_in _ (by omega)
            clear hvg hc hZ hd hZN hqT hin
            by_cases hyy : y = 1
            · have e1 : (y == 1) = true := beq_t hyy
              subst hyy
              go_wp2_with fail
              refine (HY.out _ HB.out).mono ?_; rintro e w' ⟨rfl, rfl⟩
              go_wp2_with fail
              go_roundw
              case rel => exact ⟨q + 1, M.set Z d, by omega, by go_num, HVS.out, HKS.out _ HK.out, HB.out.setCell (p := ⟨R, Z, none⟩) HLR _⟩
              case measure => simp [intOf]; omega
            · have e1 : (y == 1) = false := beq_f hyy
              clear hyy
              go_wp2_with fail
              refine (HY.out _ HB.out).mono ?_; rintro e w' ⟨rfl, rfl⟩
              go_wp2_with fail
              go_roundw
              case rel => exact ⟨q + 1, M, by omega, by go_num, HV.out, HK.out, HB.out⟩
              case measure => simp [intOf]; omega
          · obtain rfl : q = H := by omega
            clear hvg
            go_wp2_with fail
            go_roundw
            case rel => exact ⟨i + 1, M, by have := HIL.out; omega, by rw [HI1.out], HV.out, HK.out, HB.out⟩
            case measure => have := HIL.out; have := HI1.out; simp [intOf]; omega
      · have hlt' : ¬ (i : Int) < (L.length : Int) := by omega
        obtain ⟨ho, hv⟩ := HEND.out M HV.out
        have hml := HV.out.1
        have hm4 : M.length ≤ 400 := by omega
        have HVI := Lib.hid (fun W => vote_impl ⟨M.toArray⟩ (T : Int) W (by show M.toArray.size ≤ _; rw [List.size_toArray]; unfold maxLen; omega))
        rw [show (⟨M.toArray⟩ : ByteArray).data.toList = M from rfl, ho, hv] at HVI
        have hcv : ∀ c, (convert 37 9 (.slice (some ⟨R, 0, none⟩) N c)).run Try.prog wr = .ok (.string ⟨M.toArray⟩) wr := by
          intro c
          rw [← hml]
          refine run_convert_bytes_back wr _ _ 5 ⟨R, 0, none⟩ c M Try.underlying37 Try.underlying5 Try.underlying9 (fun j hj => ?_)
          rw [add_plain3, Nat.zero_add]
          exact HK.out.c j _ (by unfold byteVals; rw [List.getElem?_map, List.getElem?_eq_getElem hj]; rfl)
        clear HAT1 HIN HEND ho hv hml hm4
        go_wp2_with fail
        refine (HVI.out _).mono ?_; rintro e w5 ⟨rfl, hb5⟩
        have B5 := Lib.hid (HB.out.trans (hb5.mono HB.out.size))
        clear hb5
        go_wp2_with fail
        go_ret
        exact ⟨rfl, B5.out⟩
end Go.Proofs.Ytcihogbkfpcfjaa
