/- Both MeanLength. -/
import Derived.Test.YtijmfienaoeboaaMm
import Derived.Test.YtijmfienaoeboaaKrs
namespace Go.Proofs.Ytijmfienaoeboaa
open Go Go.RowKit Go.Maps
set_option linter.unusedVariables false

def mlN (ws : List ByteArray) (wt : List Int) : Int := if mlOk ws wt then mkN (sm (wl wt ws) wt.length) (sm (wo wt) wt.length) else 0
def mlD (ws : List ByteArray) (wt : List Int) : Int := if mlOk ws wt then mkD (sm (wl wt ws) wt.length) (sm (wo wt) wt.length) else 0
theorem mlOk_c {ws : List ByteArray} {wt : List Int} (h : cdOk ws = false) : mlOk ws wt = false := by unfold mlOk; rw [h]; rfl
theorem mlOk_w {ws : List ByteArray} {wt : List Int} (h : wgOk 62500000000000 wt = false) : mlOk ws wt = false := by unfold mlOk; rw [h]; simp
theorem mlOk_l {ws : List ByteArray} {wt : List Int} (h : ws.length ≠ wt.length) : mlOk ws wt = false := by unfold mlOk; rw [decide_eq_false h]; simp
theorem ml_no {ws : List ByteArray} {wt : List Int} (h : mlOk ws wt = false) : mlN ws wt = 0 ∧ mlD ws wt = 0 := by unfold mlN mlD; rw [h]; exact ⟨rfl, rfl⟩
theorem ml_yes {ws : List ByteArray} {wt : List Int} (h : mlOk ws wt = true) : mlN ws wt = mkN (sm (wl wt ws) wt.length) (sm (wo wt) wt.length) ∧ mlD ws wt = mkD (sm (wl wt ws) wt.length) (sm (wo wt) wt.length) := by unfold mlN mlD; rw [h]; exact ⟨rfl, rfl⟩
theorem mlOk_t {ws : List ByteArray} {wt : List Int} (h1 : cdOk ws = true) (h2 : wgOk 62500000000000 wt = true) (h3 : ws.length = wt.length) : mlOk ws wt = true := by unfold mlOk; rw [h1, h2, decide_eq_true h3]; rfl
theorem mlbox (w : World) : Bk (w.alloc (.cells #[.int .i64 0, .int .i64 0] 28)) w.heap.size [.int .i64 0, .int .i64 0] ∧ Below w.heap.size w (w.alloc (.cells #[.int .i64 0, .int .i64 0] 28)) :=
  ⟨Bk.new w [.int .i64 0, .int .i64 0] _ _ rfl, (Below.refl _ _).alloc (Nat.le_refl _) _⟩
theorem mul_bd {a b : Int} (h1 : 1 ≤ a) (h2 : a ≤ 62500000000000) (h3 : 1 ≤ b) (h4 : b ≤ 12) : 0 ≤ a * b ∧ a * b ≤ 750000000000000 := by
  have := wl_one h1 h2 h3 h4; omega

set_option maxHeartbeats 1600000 in
set_option maxRecDepth 100000 in
theorem mean5_spec (w : World) (v u : Value) (l : List ByteArray) (wt : List Int) (h : RdS w v l) (hu : Rd w u wt) (hm : ∀ s ∈ l, s.size ≤ 4000000) :
    Calls Try.prog 27 #[v, u] w fun e w' => e = .returned (.tuple #[.agg #[.int .i64 (mlN l wt), .int .i64 (mlD l wt)], .bool (mlOk l wt)]) ∧ Below w.heap.size w w' := by
  obtain ⟨hR0, hB0⟩ := mlbox w
  have HR2 := Lib.hid hR0
  have HB2 := Lib.hid hB0
  clear hR0 hB0
  have HH := Lib.hid (h.keep HB2.out)
  have HU := Lib.hid (hu.keep HB2.out)
  have HC := Lib.hid (fun W h => l05Is_any W v l h hm)
  have HW := Lib.hid (fun W h => l05Weights_any W u wt h)
  cases hs : cdOk l
  · have h0 := mlOk_c (wt := wt) hs
    obtain ⟨e1, e2⟩ := ml_no h0
    rw [e1, e2, h0]
    rw [hs] at HC
    clear e1 e2 hs h hm hu h0 HW
    go_enter Try.func27, Try.ntmps27
    go_wp2_with fail
    refine (HC.out _ HH.out).mono ?_; rintro e w1 ⟨rfl, q, rfl⟩
    have HR3 := Lib.hid (HR2.out.drewN q)
    have HB3 := Lib.hid (below_drewN HB2.out q)
    obtain ⟨r0, r1⟩ := bk_two2 HR3.out
    have f0 := HR3.out.f 0 (by decide)
    have f1 := HR3.out.f 1 (by decide)
    go_wp2_with fail
    simp [bodyPost, results, Try.results27, go_sem, r0, r1]
    first | exact (HB3.out.setCell (Nat.le_refl _) _).setCell (Nat.le_refl _) _ | exact HB3.out
  rw [hs] at HC
  cases hw : wgOk 62500000000000 wt
  · have h0 := mlOk_w (ws := l) hw
    obtain ⟨e1, e2⟩ := ml_no h0
    rw [e1, e2, h0]
    rw [hw] at HW
    clear e1 e2 hs h hm hu h0 hw
    go_enter Try.func27, Try.ntmps27
    go_wp2_with fail
    refine (HC.out _ HH.out).mono ?_; rintro e w1 ⟨rfl, q, rfl⟩
    have HR3 := Lib.hid (HR2.out.drewN q)
    have HB3 := Lib.hid (below_drewN HB2.out q)
    have HU3 := Lib.hid (HU.out.drewN q)
    go_wp2_with fail
    refine (HW.out _ HU3.out).mono ?_; rintro e w2 ⟨rfl, rfl⟩
    obtain ⟨r0, r1⟩ := bk_two2 HR3.out
    have f0 := HR3.out.f 0 (by decide)
    have f1 := HR3.out.f 1 (by decide)
    go_wp2_with fail
    simp [bodyPost, results, Try.results27, go_sem, r0, r1]
    first | exact (HB3.out.setCell (Nat.le_refl _) _).setCell (Nat.le_refl _) _ | exact HB3.out
  rw [hw] at HW
  obtain ⟨A, n, c, rfl, hn, -, -, r⟩ := h
  obtain ⟨B, m, d, rfl, hm2, -, -, r2⟩ := hu
  have hnm := hn
  by_cases hl : l.length = wt.length
  rotate_left
  · have h0 := mlOk_l hl
    obtain ⟨e1, e2⟩ := ml_no h0
    rw [e1, e2, h0]
    have t1 : ((n : Int) != (m : Int)) = true := bne_t (by omega)
    clear e1 e2 hs hm h0 hw hl hn hm2 r r2 hnm
    go_enter Try.func27, Try.ntmps27
    go_wp2_with fail
    refine (HC.out _ HH.out).mono ?_; rintro e w1 ⟨rfl, q, rfl⟩
    have HR3 := Lib.hid (HR2.out.drewN q)
    have HB3 := Lib.hid (below_drewN HB2.out q)
    have HU3 := Lib.hid (HU.out.drewN q)
    go_wp2_with fail
    refine (HW.out _ HU3.out).mono ?_; rintro e w2 ⟨rfl, rfl⟩
    obtain ⟨r0, r1⟩ := bk_two2 HR3.out
    have f0 := HR3.out.f 0 (by decide)
    have f1 := HR3.out.f 1 (by decide)
    go_wp2_with fail
    simp [bodyPost, results, Try.results27, go_sem, r0, r1]
    first | exact (HB3.out.setCell (Nat.le_refl _) _).setCell (Nat.le_refl _) _ | exact HB3.out
  have hok := mlOk_t hs hw hl
  obtain ⟨e1, e2⟩ := ml_yes hok
  rw [e1, e2, hok, hm2]
  obtain rfl : n = m := by omega
  have t1 : ((n : Int) != (n : Int)) = false := by simp
  have h16 : n ≤ 16 := by have := (wgOk_parts hw).2.1; omega
  have h2 : 2 ≤ n := by have := (wgOk_parts hw).1; omega
  have HE := Lib.hid (fun k hk => ml_bd hok k hk)
  have HO := Lib.hid (fun k hk => ml_each hok k hk)
  have HCW := Lib.hid (fun s hs' => cwOk_parts ((cdOk_parts hs).2.2.2 s hs'))
  have HWG := Lib.hid (wgOk_parts hw).2.2
  have HN := Lib.hid hn
  have HM := Lib.hid hm2
  have HRa := Lib.hid r
  have HRb := Lib.hid r2
  clear e1 e2 hs hm hw hl hn hm2 r r2 hnm hok
  go_enter Try.func27, Try.ntmps27
  go_wp2_with fail
  refine (HC.out _ HH.out).mono ?_; rintro e w1 ⟨rfl, q0, rfl⟩
  have HR3 := Lib.hid (HR2.out.drewN q0)
  have HB3 := Lib.hid (below_drewN HB2.out q0)
  have HU3 := Lib.hid (HU.out.drewN q0)
  go_wp2_with fail
  refine (HW.out _ HU3.out).mono ?_; rintro e w2 ⟨rfl, rfl⟩
  clear HR2 HB2 HU HH HC HW
  obtain ⟨W3, hW3⟩ : ∃ W3, W3 = (w.alloc (.cells #[.int .i64 0, .int .i64 0] 28)).drewN q0 := ⟨_, rfl⟩
  rw [← hW3] at HR3 HB3 HU3 ⊢
  clear hW3
  go_wp2_with fail
  go_loopw [6, 7, 8] (fun s a i wr => ∃ k q : Nat, k ≤ n ∧ i = .int .i64 k ∧ s = .int .i64 (sm (wl wt l) k) ∧ a = .int .i64 (sm (wo wt) k) ∧ wr = W3.drewN q) (fun _ _ i _ => n - (intOf i).toNat)
  case atStart => exact ⟨0, 0, Nat.zero_le _, rfl, rfl, rfl, rfl⟩
  case round =>
    obtain ⟨k, q, hk, rfl, rfl, rfl, rfl⟩ := hrel
    by_cases hlt : k < n
    · obtain ⟨b, o, rfl, hlt0, hc⟩ := HRa.out (by omega)
      obtain ⟨b2, o2, rfl, hlt2, hc2⟩ := HRb.out (by omega)
      have hkl : k < l.length := by have := HN.out; omega
      have hkm : k < wt.length := by have := HM.out; omega
      have hc0 := (HB3.out.cell (p := ⟨b, o + k, none⟩) hlt0).trans (hc k hkl)
      have hc1 := (HB3.out.cell (p := ⟨b2, o2 + k, none⟩) hlt2).trans (hc2 k hkm)
      obtain ⟨⟨s1, s2⟩, ⟨a1, a2⟩⟩ := HE.out k (by omega)
      obtain ⟨x1, x2, -⟩ := HCW.out l[k] (List.getElem_mem hkl)
      obtain ⟨y1, y2⟩ := HWG.out wt[k] (List.getElem_mem hkm)
      have HS1 : Hid (sm (wl wt l) (k + 1) = sm (wl wt l) k + wt[k] * (l[k].size : Int)) := by show _ = _; rw [sm, wl_at hkm hkl]
      have HS2 : Hid (sm (wo wt) (k + 1) = sm (wo wt) k + wt[k]) := by show _ = _; rw [sm, wo_at hkm]
      obtain ⟨z1, z2⟩ := mul_bd y1 y2 (show (1 : Int) ≤ (l[k].size : Int) by omega) (by omega)
      have hk0 : (0 : Int) ≤ (k : Int) := by omega
      have hk1 : (k : Int) < (n : Int) := by omega
      clear hc hc2
      generalize l[k] = x at *
      generalize wt[k] = y at *
      generalize sm (wl wt l) k = S at *
      generalize sm (wo wt) k = Q at *
      have e1 : IntKind.i64.wrap (y * (x.size : Int)) = y * (x.size : Int) := IntWalk.i64_in _ (by omega)
      have e2 : IntKind.i64.wrap (S + y * (x.size : Int)) = S + y * (x.size : Int) := IntWalk.i64_in _ (by omega)
      have hc0' : ∀ q, (W3.drewN q).cell? ⟨b, o + k, none⟩ = some (.string x) := fun q => by simpa using hc0
      have hc1' : ∀ q, (W3.drewN q).cell? ⟨b2, o2 + k, none⟩ = some (.int .i64 y) := fun q => by simpa using hc1
      have HC1 := Lib.hid hc1'
      have hcq := hc0' q
      have hcr := hc1' q
      clear hc0' hc1'
      go_wp2_with fail
      go_quiet (fail)
      have hcs := HC1.out
      go_wp2_with fail
      go_roundw
      case rel => exact ⟨k + 1, _, by omega, by go_num, by rw [HS1.out], by rw [HS2.out], rfl⟩
      case measure => simp [intOf]; omega
    · obtain rfl : k = n := by omega
      obtain ⟨⟨s1, s2⟩, ⟨a1, a2⟩⟩ := HE.out k (by have := HM.out; omega)
      have HR4 := Lib.hid (HR3.out.drewN q)
      have HB4 := Lib.hid (below_drewN HB3.out q)
      obtain ⟨S, hS⟩ : ∃ S, sm (wl wt l) k = S := ⟨_, rfl⟩
      obtain ⟨Q, hQ⟩ : ∃ Q, sm (wo wt) k = Q := ⟨_, rfl⟩
      have HS := Lib.hid hS
      have HQ := Lib.hid hQ
      rw [hS] at s1 s2 ⊢
      rw [hQ] at a1 a2 ⊢
      clear hS hQ
      go_wp2_with fail
      refine (l01FMake_any S Q _ (by omega) (by omega) (by omega) (by omega) (by omega)).mono ?_; rintro e w2 ⟨rfl, hb2⟩
      have HR5 := Lib.hid (HR4.out.keep hb2)
      have HB5 := Lib.hid (HB4.out.trans (hb2.mono HB4.out.size))
      clear hb2
      obtain ⟨r0, r1⟩ := bk_two2 HR5.out
      have f0 := HR5.out.f 0 (by decide)
      have f1 := HR5.out.f 1 (by decide)
      go_wp2_with fail
      simp [bodyPost, results, Try.results27, go_sem, r0, r1]
      exact ⟨⟨by rw [HS.out, HQ.out], by rw [HS.out, HQ.out]⟩, (HB5.out.setCell (p := ⟨w.heap.size, 0, none⟩) (Nat.le_refl _) _).setCell (p := ⟨w.heap.size, 1, none⟩) (Nat.le_refl _) _⟩
end Go.Proofs.Ytijmfienaoeboaa
