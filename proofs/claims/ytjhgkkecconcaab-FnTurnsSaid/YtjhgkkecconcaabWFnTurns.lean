/- The walk of the law FnTurns. -/
import Derived.Test.YtjhgkkecconcaabTuI
import Derived.Test.YtjhgkkecconcaabPcI
import Derived.Test.YtjhgkkecconcaabTkJ
namespace Go.Proofs.Ytjhgkkecconcaab
open Go Go.RowKit
set_option linter.unusedVariables false

theorem rdv_keepT {w w' : World} {v : Value} {l : List Value} (h : RdV (· < w.heap.size) w v l) (hb : Below w.heap.size w w') : RdV (· < w'.heap.size) w' v l := by
  obtain ⟨A, n, c, e, hn, h1, h2, h3⟩ := h.keep hb
  refine ⟨A, n, c, e, hn, h1, h2, fun h0 => ?_⟩
  obtain ⟨b, o, ea, hK, hlt, hc⟩ := h3 h0
  exact ⟨b, o, ea, hlt, hlt, hc⟩
theorem b10N_bd (l : List Value) (k t : Nat) (ht : 2 ≤ t) : 0 ≤ b10N l k t ∧ b10N l k t < t := by
  unfold b10N
  split <;> (constructor <;> first | omega | exact Int.emod_nonneg _ (by omega) | exact Int.emod_lt_of_pos _ (by omega))
/-- What the program tells of needs, all in one. -/
theorem tu_told {L : List Int} (hL : NdD L 0) {g hd : Int} (hg : 0 ≤ g ∧ g ≤ 3) (hh : 1 ≤ hd ∧ hd ≤ 4) {f : Int} (hf : 1 ≤ f ∧ f ≤ 5) :
    (pcyB L g = true ∧ pcyV L g = tmL L g L.length ∧ pcyT L g = tmA L g L.length) ∧ (tkOk L hd g = true ∧ tkV L hd g = tkV0 L hd g ∧ tkT L hd g = mxL (tkV0 L hd g)) ∧
      ∃ (F : Nat) (G : List (List Int)), f = (F : Int) ∧ rvV L f = G ∧ rvK L f = true ∧ TuA L g hd F G := by
  obtain ⟨h1, h2, h3⟩ := hL
  simp only [Nat.add_zero] at h1 h2
  have n0 : ndB L = true := by
    unfold ndB anB
    simp only [Bool.and_eq_true, decide_eq_true_eq, List.all_eq_true]
    exact ⟨h2, by omega, fun x hx => by have := h3 x hx; omega⟩
  have g0 : rgB 0 1000 g = true := decide_eq_true (by omega)
  have g1 : rgB 1 1000 hd = true := decide_eq_true (by omega)
  have g2 : rgB 1 20 f = true := decide_eq_true (by omega)
  obtain ⟨a1, a2, a3⟩ := rvO_yes n0 g2
  obtain ⟨b1, b2, b3, b4⟩ := tkOk_yes n0 g1 g0
  obtain ⟨G, c1, c2⟩ := tu_all (L := L) (g := g) (hd := hd) (f := f.toNat) h2 (by omega) h3 hg hh (by omega)
  obtain ⟨d1, d2⟩ := rvV_yes (a3.trans c1)
  exact ⟨pcy_yes n0 g0, ⟨b2, b3, b4⟩, f.toNat, G, a2.symm, d1, d2, c2⟩

set_option maxHeartbeats 4000000 in
set_option maxRecDepth 100000 in
theorem law_FnTurns (v0 : Value) (l0 : List Value) (k0 : ∀ x ∈ l0, ∃ y : Int, x = .int .u8 y ∧ 0 ≤ y ∧ y ≤ 255) (v1 : Value) (l1 : List Value) (k1 : ∀ x ∈ l1, ∃ y : Int, x = .int .u8 y ∧ 0 ≤ y ∧ y ≤ 255) (w : World) (r0 : RdV (· < w.heap.size) w v0 l0) (r1 : RdV (· < w.heap.size) w v1 l1) :
    Calls Try.prog 6 #[v0, v1] w fun e w' => e = .returned (.bool true) ∧ Below w.heap.size w w' := by
  have HR0 := Lib.hid r0
  have HR1 := Lib.hid r1
  have HK0 := Lib.hid k0
  have HK1 := Lib.hid k1
  obtain ⟨A0, n0, c0, rfl, hn0, -⟩ := r0
  obtain ⟨A1, n1, c1, rfl, hn1, -⟩ := r1
  clear k0 k1 hn0 hn1
  have HL := Lib.hid (fun W => b10Long_any W A0 A1 n0 c0 n1 c1)
  by_cases hz : 1048576 < n0 ∨ 1048576 < n1
  · have hz' : (decide (1048576 < n0) || decide (1048576 < n1)) = true := by rcases hz with h | h <;> simp [h]
    rw [hz'] at HL
    clear hz hz'
    go_enter Try.func6, Try.ntmps6
    go_wp2_with fail
    refine (HL.out _).mono ?_; rintro e w1 ⟨rfl, q, rfl⟩
    go_wp2_with fail
    go_ret
    exact ⟨rfl, below_drewN (Below.refl _ _) q⟩
  have hz' : (decide (1048576 < n0) || decide (1048576 < n1)) = false := by simp; omega
  rw [hz'] at HL
  clear hz hz'
  have HAT : Hid (∀ (k t : Nat), 2 ≤ t ∧ t ≤ 1000000 → k ≤ 1000000 → ∃ a : Int, (0 ≤ a ∧ a < t) ∧ ∀ W, Below w.heap.size w W → Calls Try.prog 30 #[.slice A1 n1 c1, .int .i64 (k : Int), .int .i64 (t : Int)] W fun e w' => e = .returned (.int .i64 a) ∧ W = w') := by
    show ∀ k t, _
    intro k t ht hk
    refine ⟨b10N l1 k t, b10N_bd l1 k t ht.1, fun W hb => ?_⟩
    exact (b10At_any W _ l1 k t ht hk (HR1.out.keep hb) HK1.out).mono fun e w' ⟨he, _, hw⟩ => ⟨he, hw⟩
  obtain ⟨g, hg, hG⟩ := HAT.out 0 4 (by decide) (by decide)
  obtain ⟨h, hh, hH⟩ := HAT.out 1 4 (by decide) (by decide)
  obtain ⟨f, hf, hF⟩ := HAT.out 2 5 (by decide) (by decide)
  have HG : Hid (∀ W, Below w.heap.size w W → Calls Try.prog 30 #[.slice A1 n1 c1, .int .i64 0, .int .i64 4] W fun e w' => e = .returned (.int .i64 g) ∧ W = w') := hG
  have HH : Hid (∀ W, Below w.heap.size w W → Calls Try.prog 30 #[.slice A1 n1 c1, .int .i64 1, .int .i64 4] W fun e w' => e = .returned (.int .i64 h) ∧ W = w') := hH
  have HF : Hid (∀ W, Below w.heap.size w W → Calls Try.prog 30 #[.slice A1 n1 c1, .int .i64 2, .int .i64 5] W fun e w' => e = .returned (.int .i64 f) ∧ W = w') := hF
  have whd : IntKind.i64.wrap (1 + h) = 1 + h := IntWalk.i64_in _ (by omega)
  have wf : IntKind.i64.wrap (1 + f) = 1 + f := IntWalk.i64_in _ (by omega)
  have HTOLD : Hid (∀ L, NdD L 0 → (pcyB L g = true ∧ pcyV L g = tmL L g L.length ∧ pcyT L g = tmA L g L.length) ∧ (tkOk L (1 + h) g = true ∧ tkV L (1 + h) g = tkV0 L (1 + h) g ∧ tkT L (1 + h) g = mxL (tkV0 L (1 + h) g)) ∧
      ∃ (F : Nat) (G : List (List Int)), 1 + f = (F : Int) ∧ rvV L (1 + f) = G ∧ rvK L (1 + f) = true ∧ TuA L g (1 + h) F G) := by
    show ∀ L, _
    intro L hL
    exact tu_told hL (by omega) (by omega) (by omega)
  have HGB : Hid (0 ≤ g ∧ g ≤ 3 ∧ f ≤ 4) := by show _ ∧ _; omega
  clear hG hH hF hg hh hf HAT
  go_enter Try.func6, Try.ntmps6
  go_wp2_with fail
  refine (HL.out _).mono ?_; rintro e w1 ⟨rfl, q, rfl⟩
  have B1 : Hid (Below w.heap.size w (w.drewN q)) := below_drewN (Below.refl _ _) q
  go_wp2_with fail
  refine (b10Needs_any _ _ _ (rdv_keepT HR0.out B1.out) HK0.out).mono ?_; rintro e w2 ⟨u, rfl, L, hL, hO, hb2⟩
  have B2 := Lib.hid (B1.out.trans (hb2.mono B1.out.size))
  obtain ⟨⟨e1, e2, e3⟩, ⟨e4, e5, e6⟩, F, G, e7, e8, e9, hA⟩ := HTOLD.out L hL
  have HA := Lib.hid hA
  have hrd := hO.rd
  obtain ⟨b, o, c, rfl, hcell⟩ := rowP hrd (by have := hA.len; omega) _ rfl
  have HC := Lib.hid hcell
  have HRD := Lib.hid hrd
  have E7 := Lib.hid e7
  have hn1 := hA.len.1
  have hn6 := hA.len.2
  clear hb2 hO hcell hrd hA B1 HTOLD hL e7
  go_wp2_with fail
  refine (HG.out _ B2.out).mono ?_; rintro e w' ⟨rfl, rfl⟩
  go_wp2_with fail
  refine (HH.out _ B2.out).mono ?_; rintro e w' ⟨rfl, rfl⟩
  go_wp2_with fail
  refine (HF.out _ B2.out).mono ?_; rintro e w' ⟨rfl, rfl⟩
  clear HG HH HF
  go_wp2_with fail
  have hp := poll_impl w2 _ L g HRD.out
  rw [e1, e2, e3, HA.out.tms] at hp
  refine hp.mono ?_; rintro e w3 ⟨u3, rfl, hO3, hb3⟩
  obtain ⟨b3, o3, c3, rfl, hcell3⟩ := rowP hO3.rd (by rw [tmL_len]; omega) L.length (tmL_len _ _ _)
  have HC3 := Lib.hid hcell3
  have B3 := Lib.hid hb3
  clear hp hcell3 hO3 hb3 e1 e2 e3
  go_wp2_with fail
  have hp := token_impl w3 _ L (1 + h) g (HRD.out.keep B3.out)
  rw [e4, e5, e6] at hp
  refine hp.mono ?_; rintro e w4 ⟨u4, rfl, hO4, hb4⟩
  obtain ⟨b4, o4, c4, rfl, hcell4⟩ := rowP hO4.rd (by rw [HA.out.dl]; omega) L.length HA.out.dl
  have HC4 := Lib.hid hcell4
  have B4 := Lib.hid (B3.out.trans (hb4.mono B3.out.size))
  have K34 := Lib.hid hb4
  clear hp hcell4 hO4 hb4 e4 e5 e6
  go_wp2_with fail
  have hp := reserve_impl w4 _ L (1 + f) (HRD.out.keep B4.out)
  rw [e8, e9] at hp
  refine hp.mono ?_; rintro e w5 ⟨u5, us, rfl, hO5, hb5⟩
  obtain ⟨A5, c5, rfl, hlist⟩ := listP hO5.rdg (fun i hi => (rvWell_at HA.out.well i hi).1)
  have HLS := Lib.hid hlist
  have B5 := Lib.hid (B4.out.trans (hb5.mono B4.out.size))
  have BW := Lib.hid (B2.out.trans (B5.out.mono B2.out.size))
  have HC' : Hid (∀ W, Below w5.heap.size w5 W → ∀ k, k < L.length → W.cell? ⟨b, o + k, none⟩ = some (.int .i64 (L.getD k 0)) ∧ W.cell? ⟨b3, o3 + k, none⟩ = some (.int .i64 (tmA L g k)) ∧ W.cell? ⟨b4, o4 + k, none⟩ = some (.int .i64 ((tkV0 L (1 + h) g).getD k 0))) := by
    show ∀ W, _
    intro W hW k hk
    have a3 := (hb5.mono K34.out.size).trans (hW.mono (by have := hb5.size; have := K34.out.size; omega))
    refine ⟨HC.out W (B5.out.trans (hW.mono B5.out.size)) k hk, ?_, HC4.out W (hb5.trans (hW.mono hb5.size)) k hk⟩
    have := HC3.out W (K34.out.trans a3) k hk
    rwa [getD_at (by rw [tmL_len]; exact hk), tmL_at] at this
  have HRD' : Hid (∀ W, Below w5.heap.size w5 W → Rd W (.slice (some ⟨b, o, none⟩) L.length c) L) := by
    show ∀ W, _
    exact fun W hW => HRD.out.keep (B5.out.trans (hW.mono B5.out.size))
  have HSM := Lib.hid (fun W hW => b10Sum_any W _ L (HRD'.out W hW) hn1 (fun k hk => by have := HA.out.sums k hk; omega))
  have HSI := HSM.out w5 (Below.refl _ _)
  have HSI := Lib.hid HSI
  clear hp hlist hO5 hb5 K34 HC HC3 HC4 HRD B4 B3 e8 e9 B2
  have hsum := HA.out.sums L.length (Nat.le_refl _)
  rw [List.take_length] at hsum
  have htm := HA.out.tm L.length (Nat.le_refl _)
  rw [HA.out.tms] at htm
  have hprod : 0 ≤ g * (L.length : Int) ∧ g * (L.length : Int) ≤ 18 := by
    obtain ⟨q1, q2, -⟩ := HGB.out
    refine ⟨Int.mul_nonneg q1 (by omega), ?_⟩
    calc g * (L.length : Int) ≤ 3 * (L.length : Int) := Int.mul_le_mul_of_nonneg_right q2 (by omega)
      _ ≤ 18 := by omega
  have wm : IntKind.i64.wrap (g * (L.length : Int)) = g * (L.length : Int) := IntWalk.i64_in _ (by omega)
  have ws : IntKind.i64.wrap (L.sum + g * (L.length : Int)) = L.sum + g * (L.length : Int) := IntWalk.i64_in _ (by omega)
  clear hprod htm hsum
  go_wp2_with fail
  refine HSI.out.mono ?_; rintro e w' ⟨rfl, rfl⟩
  clear HSI
  have HN7 := Lib.hid HA.out.nn
  have HDN := Lib.hid HA.out.dn
  have HDM := Lib.hid HA.out.dm
  have HTM := Lib.hid HA.out.tm
  have HMX : Hid (mxL (tkV0 L (1 + h) g) = ((tkV0 L (1 + h) g).take L.length).foldl max 0) := by
    show _ = _
    rw [← HA.out.dl, List.take_length]; rfl
  have HMS := Lib.hid (fun k (hk : k < L.length) => mx_step (tkV0 L (1 + h) g) (k := k) (by rw [HA.out.dl]; exact hk))
  generalize hD : tkV0 L (1 + h) g = D at *
  clear hD
  go_wp2_with fail
  go_loopw [17, 18, 19] (fun t m i wr => ∃ k : Nat, k ≤ L.length ∧ i = .int .i64 k ∧ t = .int .i64 (tmA L g k) ∧ m = .int .i64 ((D.take k).foldl max 0) ∧ Below w5.heap.size w5 wr) (fun _ _ i _ => L.length - (intOf i).toNat)
  case atStart => exact ⟨0, Nat.zero_le _, rfl, rfl, rfl, Below.refl _ _⟩
  case round =>
    obtain ⟨k, hk, rfl, rfl, rfl, hb⟩ := hrel
    have HB := Lib.hid hb
    clear hb
    by_cases hlt : k < L.length
    · have hk1 : (k : Int) < (L.length : Int) := by omega
      have hk0 : (0 : Int) ≤ (k : Int) := by omega
      have wk : IntKind.i64.wrap ((k : Int) + 1) = (k : Int) + 1 := IntWalk.i64_in _ (by omega)
      obtain ⟨ca, cb, cc⟩ := HC'.out wr HB.out k hlt
      have HCC : Hid (∀ W, Below w5.heap.size w5 W → W.cell? ⟨b, o + k, none⟩ = some (.int .i64 (L.getD k 0)) ∧ W.cell? ⟨b3, o3 + k, none⟩ = some (.int .i64 (tmA L g k)) ∧ W.cell? ⟨b4, o4 + k, none⟩ = some (.int .i64 (D.getD k 0))) := by
        show ∀ W, _
        exact fun W hW => HC'.out W hW k hlt
      obtain ⟨x0, x7⟩ := HN7.out k hlt
      obtain ⟨y0, y1⟩ := HDN.out k hlt
      have HSX := Lib.hid (HMS.out k hlt)
      obtain ⟨t0, t1⟩ := HTM.out k hk
      obtain ⟨s0, s1⟩ := HTM.out (k + 1) (by omega)
      have HTS : Hid (tmA L g (k + 1) = tmA L g k + (L.getD k 0 + g)) := rfl
      obtain ⟨g0, g1, -⟩ := HGB.out
      generalize (D.take k).foldl max 0 = M at *
      rw [HTS.out] at s0 s1
      generalize tmA L g k = T at *
      generalize L.getD k 0 = x at *
      generalize D.getD k 0 = y at *
      have wa : IntKind.i64.wrap (x + g) = x + g := IntWalk.i64_in _ (by omega)
      have wb : IntKind.i64.wrap (T + (x + g)) = T + (x + g) := IntWalk.i64_in _ (by omega)
      have hyx : ¬ y < x := by omega
      by_cases hx : x = 0
      · have hy : y = 0 := y1.2 hx
        subst hx
        subst hy
        have wb0 : IntKind.i64.wrap (T + g) = T + g := IntWalk.i64_in _ (by omega)
        clear y1 x0 x7 y0 t0 t1 s0 s1
        go_wp2_with fail
        go_quiet (fail)
        go_wp2_with fail
        all_goals
          refine ⟨⟨k + 1, hlt, by first | rfl | (congr 1; omega), by rw [HTS.out] <;> first | rfl | (congr 1; omega), by rw [HSX.out] <;> first | rfl | (congr 1; omega), below_drewN HB.out _⟩, ?_⟩
          first | (simp [intOf]; done) | (simp [intOf]; omega)
      · have hy : ¬ y = 0 := fun e => hx (y1.1 e)
        have hx' : (x == 0) = false := by simpa using hx
        have hy' : (y == 0) = false := by simpa using hy
        clear y1 x0 x7 y0 t0 t1 s0 s1
        go_wp2_with fail
        go_quiet (fail)
        go_wp2_with fail
        all_goals
          refine ⟨⟨k + 1, hlt, by first | rfl | (congr 1; omega), by rw [HTS.out] <;> first | rfl | (congr 1; omega), by rw [HSX.out] <;> first | rfl | (congr 1; omega), below_drewN HB.out _⟩, ?_⟩
          first | (simp [intOf]; done) | (simp [intOf]; omega)
    · obtain rfl : k = L.length := by omega
      rw [← HMX.out]
      have HSI := Lib.hid (HSM.out wr HB.out)
      have hdm := HDM.out
      have hmk := make_i64 L.length (by omega)
      clear HSM HMX HMS HTM HDN HN7 HDM
      generalize mxL D = M at *
      have hms : ¬ M < L.sum := by omega
      clear hdm
      go_wp2_with fail
      refine HSI.out.mono ?_; rintro e w' ⟨rfl, rfl⟩
      clear HSI
      have R0 : Hid (RowI (wr.alloc (.cells (List.replicate L.length (Value.int .i64 0)).toArray 2)) w5.heap.size wr.heap.size L.length L.length (gtL L.length G 0 0)) := by
        show RowI _ _ _ _ _ _
        rw [gtL_start]
        exact RowI.made wr w5.heap.size L.length (by omega) HB.out.size
      have B0 : Hid (Below w5.heap.size w5 (wr.alloc (.cells (List.replicate L.length (Value.int .i64 0)).toArray 2))) := HB.out.alloc HB.out.size _
      have HWA := Lib.hid (fun j (hj : j < G.length) => rvWell_at HA.out.well j hj)
      have HBD := Lib.hid (fun j k s (hj : j < G.length) => ctF_bd HA.out.well (by have := HGB.out.2.2; have := E7.out; omega) HA.out.few (i := j) (k := k) (s := s) hj)
      have HEND := Lib.hid (gtL_end rfl HA.out.cnt)
      have HFEW := Lib.hid HA.out.few
      have HF5 : Hid (F ≤ 5) := by show F ≤ 5; have := HGB.out.2.2; have := E7.out; omega
      have HFI := Lib.hid (show 1 + f = (F : Int) from E7.out)
      generalize 1 + f = fr at *
      obtain rfl : fr = (F : Int) := HFI.out
      clear HFI E7 wf hk wm ws
      go_wp2_with fail
      clear hms
      obtain ⟨wq, rfl⟩ : ∃ x, x = wr := ⟨_, rfl⟩
      go_loopw [21] (fun i wr => ∃ j : Nat, j ≤ G.length ∧ i = .int .i64 j ∧ RowI wr w5.heap.size wq.heap.size L.length L.length (gtL L.length G j 0) ∧ Below w5.heap.size w5 wr) (fun i _ => G.length - (intOf i).toNat)
      case atStart => exact ⟨0, Nat.zero_le _, rfl, R0.out, B0.out⟩
      case round =>
        obtain ⟨j, hj, rfl, hr, hb⟩ := hrel
        have HRJ := Lib.hid hr
        have HBJ := Lib.hid hb
        clear hr hb R0 B0 HB
        by_cases hlt : j < G.length
        · have hj1 : (j : Int) < (G.length : Int) := by omega
          have hj0 : (0 : Int) ≤ (j : Int) := by omega
          have hfew := HFEW.out
          have wj : IntKind.i64.wrap ((j : Int) + 1) = (j : Int) + 1 := IntWalk.i64_in _ (by omega)
          obtain ⟨bl, ol, bi, oi, ci, rfl, hcl⟩ := HLS.out j hlt
          have HCL := Lib.hid hcl
          clear hcl
          obtain ⟨cj, -⟩ := HCL.out _ HBJ.out
          obtain ⟨p0, p1, p2, p3⟩ := HWA.out j hlt
          have HEL := Lib.hid p2
          have HMEM := Lib.hid (fun k (hk : k < (G.getD j []).length) => (by rw [getD_at hk]; exact List.getElem_mem hk : (G.getD j []).getD k 0 ∈ G.getD j []))
          have HROW := Lib.hid (gtL_row (n := L.length) hlt)
          have HBK := Lib.hid (fun k s => HBD.out j k s hlt)
          clear p2
          have HNX := Lib.hid (fun k X h1 h2 h3 => gtL_next (n := L.length) (G := G) (i := j) (k := k) (X := X) h1 h2 h3)
          have HAT := Lib.hid (fun k s h => gtL_at L.length G j k s h)
          generalize G.getD j [] = a at *
          generalize hml : a.length = m at *
          clear hml
          have m0 : ¬ (m : Int) = 0 := by omega
          have HM5 : m ≤ 5 := by have := HF5.out; omega
          have m1 : ¬ (F : Int) < (m : Int) := by omega
          obtain ⟨wo, rfl⟩ : ∃ x, x = wr := ⟨_, rfl⟩
          obtain ⟨X0, HX0⟩ : ∃ X : Nat → Nat, Hid (∀ k, k < m → a.getD k 0 = ((X k : Nat) : Int) ∧ X k < L.length) := by
            refine ⟨fun k => (a.getD k 0).toNat, ?_⟩
            show ∀ k, _
            intro k hk
            dsimp only
            have := HEL.out (a.getD k 0) (HMEM.out k hk)
            omega
          by_cases hl : j + 1 < G.length
          · have hm : m = F := p3 hl
            have hl' : (j : Int) + 1 < (G.length : Int) := by omega
            have hmi : ((m : Int) == (F : Int)) = true := by simp [hm]
            subst hm
            clear p0 p1 p3 hl
            go_wp2_with fail
            clear hl' hmi m0 m1
            go_loopw [22] (fun i wr => ∃ k : Nat, k ≤ m ∧ i = .int .i64 k ∧ RowI wr w5.heap.size wq.heap.size L.length L.length (gtL L.length G j k) ∧ Below w5.heap.size w5 wr) (fun i _ => m - (intOf i).toNat)
            case atStart => exact ⟨0, Nat.zero_le _, rfl, HRJ.out, HBJ.out⟩
            case round =>
              obtain ⟨k, hk, rfl, hr, hb⟩ := hrel
              have HRK := Lib.hid hr
              have HBK' := Lib.hid hb
              clear hr hb HRJ HBJ
              by_cases hkm : k < m
              · have hkm' : (k : Int) < (m : Int) := by omega
                have hk0 : (0 : Int) ≤ (k : Int) := by omega
                obtain ⟨ex, hX⟩ := HX0.out k hkm
                have HXE := Lib.hid ex
                obtain ⟨cj', ck⟩ := HCL.out _ HBK'.out
                have ckx := ck k hkm
                rw [ex] at ckx
                clear ck cj ex
                generalize X0 k = X at *
                have hX0 : (0 : Int) ≤ (X : Int) := by omega
                have hX1 : (X : Int) < (L.length : Int) := by omega
                have hat := HRK.out.at X (by rw [gtL_len]; exact hX)
                rw [HAT.out k X (by rw [gtL_len]; exact hX)] at hat
                have hfz := HRK.out.fz X
                obtain ⟨q0, q1⟩ := HBK.out k X
                have HNEXT := Lib.hid (HNX.out k X hkm HXE.out hX)
                have HST := Lib.hid (HRK.out.set X (ctF G j k X + 1))
                rw [HNEXT.out] at HST
                have HSB : Hid (Below w5.heap.size w5 (wr.setCell ⟨wq.heap.size, X, none⟩ (.int .i64 (ctF G j k X + 1)))) := HBK'.out.setCell (HRK.out.2.2.1) _
                generalize ctF G j k X = cv at *
                have wcv : IntKind.i64.wrap (cv + 1) = cv + 1 := IntWalk.i64_in _ (by omega)
                have wk : IntKind.i64.wrap ((k : Int) + 1) = (k : Int) + 1 := IntWalk.i64_in _ (by omega)
                clear q0 q1
                go_wp2_with fail
                go_roundw
                case rel => exact ⟨k + 1, by omega, by first | rfl | (congr 1; omega), HST.out, HSB.out⟩
                case measure => first | (simp [intOf]; done) | (simp [intOf]; omega)
              · obtain rfl : k = m := by omega
                have hr := HRK.out
                rw [HROW.out] at hr
                obtain ⟨cj', -⟩ := HCL.out _ HBK'.out
                clear cj
                have HR' := Lib.hid hr
                clear hr
                go_wp2_with fail
                go_roundw
                case rel => exact ⟨j + 1, by omega, by first | rfl | (congr 1; omega), HR'.out, HBK'.out⟩
                case measure => first | (simp [intOf]; done) | (simp [intOf]; omega)
          · have hl' : ¬ ((j : Int) + 1 < (G.length : Int)) := by omega
            clear p0 p1 p3 hl
            go_wp2_with fail
            clear hl' m0 m1
            go_loopw [22] (fun i wr => ∃ k : Nat, k ≤ m ∧ i = .int .i64 k ∧ RowI wr w5.heap.size wq.heap.size L.length L.length (gtL L.length G j k) ∧ Below w5.heap.size w5 wr) (fun i _ => m - (intOf i).toNat)
            case atStart => exact ⟨0, Nat.zero_le _, rfl, HRJ.out, HBJ.out⟩
            case round =>
              obtain ⟨k, hk, rfl, hr, hb⟩ := hrel
              have HRK := Lib.hid hr
              have HBK' := Lib.hid hb
              clear hr hb HRJ HBJ
              by_cases hkm : k < m
              · have hkm' : (k : Int) < (m : Int) := by omega
                have hk0 : (0 : Int) ≤ (k : Int) := by omega
                obtain ⟨ex, hX⟩ := HX0.out k hkm
                have HXE := Lib.hid ex
                obtain ⟨cj', ck⟩ := HCL.out _ HBK'.out
                have ckx := ck k hkm
                rw [ex] at ckx
                clear ck cj ex
                generalize X0 k = X at *
                have hX0 : (0 : Int) ≤ (X : Int) := by omega
                have hX1 : (X : Int) < (L.length : Int) := by omega
                have hat := HRK.out.at X (by rw [gtL_len]; exact hX)
                rw [HAT.out k X (by rw [gtL_len]; exact hX)] at hat
                have hfz := HRK.out.fz X
                obtain ⟨q0, q1⟩ := HBK.out k X
                have HNEXT := Lib.hid (HNX.out k X hkm HXE.out hX)
                have HST := Lib.hid (HRK.out.set X (ctF G j k X + 1))
                rw [HNEXT.out] at HST
                have HSB : Hid (Below w5.heap.size w5 (wr.setCell ⟨wq.heap.size, X, none⟩ (.int .i64 (ctF G j k X + 1)))) := HBK'.out.setCell (HRK.out.2.2.1) _
                generalize ctF G j k X = cv at *
                have wcv : IntKind.i64.wrap (cv + 1) = cv + 1 := IntWalk.i64_in _ (by omega)
                have wk : IntKind.i64.wrap ((k : Int) + 1) = (k : Int) + 1 := IntWalk.i64_in _ (by omega)
                clear q0 q1
                go_wp2_with fail
                go_roundw
                case rel => exact ⟨k + 1, by omega, by first | rfl | (congr 1; omega), HST.out, HSB.out⟩
                case measure => first | (simp [intOf]; done) | (simp [intOf]; omega)
              · obtain rfl : k = m := by omega
                have hr := HRK.out
                rw [HROW.out] at hr
                obtain ⟨cj', -⟩ := HCL.out _ HBK'.out
                clear cj
                have HR' := Lib.hid hr
                clear hr
                go_wp2_with fail
                go_roundw
                case rel => exact ⟨j + 1, by omega, by first | rfl | (congr 1; omega), HR'.out, HBK'.out⟩
                case measure => first | (simp [intOf]; done) | (simp [intOf]; omega)
        · obtain rfl : j = G.length := by omega
          have hr := HRJ.out
          rw [HEND.out] at hr
          go_wp2_with fail
          refine (b10Nums_any _ _ _ L L hr.rd (HRD'.out _ HBJ.out)).mono ?_; rintro e w' ⟨rfl, q, rfl⟩
          rw [decide_eq_true rfl]
          go_wp2_with fail
          go_ret
          exact ⟨rfl, below_drewN (BW.out.trans (HBJ.out.mono BW.out.size)) q⟩
end Go.Proofs.Ytjhgkkecconcaab
