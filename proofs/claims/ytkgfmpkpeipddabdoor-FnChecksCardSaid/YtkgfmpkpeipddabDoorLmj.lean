/- LeastMissed: the model's and the program's. -/
import Derived.Test.YtkgfmpkpeipddabDoorLmi
namespace Go.Proofs.YtkgfmpkpeipddabDoor
open Go Go.RowKit Go.Shelf
set_option linter.unusedVariables false

theorem lm_first (p d L k : Nat) (h : lmL p d L k = []) (h1 : 1 ≤ k) (hc : 0 < cmN p d L k) : ∀ j, ∃ r, lmL p d L (k + 1 + j) = k :: r ∧ ∀ x ∈ r, k ≤ x := by
  intro j
  induction j with
  | zero => exact ⟨[], by rw [Nat.add_zero, lmL_succ _ _ _ _ h1, if_pos hc, h]; rfl, by simp⟩
  | succ j ih =>
    obtain ⟨r, e, hr⟩ := ih
    have hs := lmL_succ p d L (k + 1 + j) (by omega)
    rw [show k + 1 + j + 1 = k + 1 + (j + 1) by omega] at hs
    by_cases h0 : 0 < cmN p d L (k + 1 + j)
    · rw [if_pos h0, e] at hs
      refine ⟨r ++ [k + 1 + j], hs, fun x hx => ?_⟩
      rcases List.mem_append.1 hx with h' | h'
      · exact hr x h'
      · have := List.mem_singleton.1 h'; omega
    · rw [if_neg h0, e] at hs
      exact ⟨r, hs, hr⟩
theorem foldl_low : ∀ (r : List Nat) (k : Nat), (∀ x ∈ r, k ≤ x) → (r.map (fun (c : Nat) => (c : Int))).foldl min (k : Int) = (k : Int)
  | [], k, _ => rfl
  | y :: r, k, h => by
    show (r.map _).foldl min (min (k : Int) (y : Int)) = _
    rw [show min (k : Int) (y : Int) = (k : Int) by have := h y (by simp); omega]
    exact foldl_low r k (fun x hx => h x (by simp [hx]))
def lmS (p d L : Nat) : List Int := (lmL p d L 5).map (fun (c : Nat) => (c : Int))
theorem lmS_first (p d L k : Nat) (h : lmL p d L k = []) (h1 : 1 ≤ k) (h4 : k ≤ 4) (hc : 0 < cmN p d L k) : lsV (lmS p d L) = k ∧ decide (lmS p d L = []) = false := by
  obtain ⟨r, e, hr⟩ := lm_first p d L k h h1 hc (4 - k)
  rw [show k + 1 + (4 - k) = 5 by omega] at e
  unfold lmS
  rw [e]
  refine ⟨foldl_low r k hr, decide_eq_false (by simp)⟩
theorem lmS_none (p d L : Nat) (h : lmL p d L 5 = []) : lsV (lmS p d L) = 0 ∧ decide (lmS p d L = []) = true := by unfold lmS; rw [h]; exact ⟨rfl, rfl⟩
def lmIn (p L : Int) : Bool := ckB p && decide (1 ≤ L ∧ L ≤ 32)
def lmV (p L : Int) : Int := if lmIn p L then lsV (lmS p.toNat (Nat.log2 p.toNat) L.toNat) else 0
def lmOk (p L : Int) : Bool := lmIn p L && !decide (lmS p.toNat (Nat.log2 p.toNat) L.toNat = [])
theorem lm_no {p L : Int} (h : lmIn p L = false) : lmV p L = 0 ∧ lmOk p L = false := by unfold lmV lmOk; rw [h]; exact ⟨rfl, rfl⟩
theorem lm_yes {p L : Int} (h : lmIn p L = true) : lmV p L = lsV (lmS p.toNat (Nat.log2 p.toNat) L.toNat) ∧ lmOk p L = !decide (lmS p.toNat (Nat.log2 p.toNat) L.toNat = []) := by unfold lmV lmOk; rw [h]; exact ⟨rfl, by simp⟩

theorem ret_ib8 {x y : Int} {c d : Bool} (h : x = y) (h2 : c = d) : Ending.returned (.tuple #[.int .i64 x, .bool c]) = .returned (.tuple #[.int .i64 y, .bool d]) := by rw [h, h2]
set_option maxRecDepth 100000 in
set_option maxHeartbeats 1000000 in
theorem leastMissed_spec (p L : Int) (w : World) :
    Calls Tryd.prog 22 #[.int .i64 p, .int .i64 L] w fun e w' => e = .returned (.tuple #[.int .i64 (lmV p L), .bool (lmOk p L)]) ∧ Below w.heap.size w w' := by
  have HC := Lib.hid (fun W => l08Check_any p W)
  have HL := Lib.hid (fun W => l00In_b L 1 32 W)
  cases g0 : ckB p
  · have hb : lmIn p L = false := by unfold lmIn; rw [g0]; rfl
    rw [(lm_no hb).1, (lm_no hb).2]
    rw [g0] at HC
    clear g0 hb
    go_enter Tryd.func22, Tryd.ntmps22
    go_wp2_with fail
    refine (HC.out _).mono ?_; rintro e w' ⟨rfl, rfl⟩
    go_wp2_with fail
    go_ret2
    exact ⟨rfl, Below.refl _ _⟩
  · cases g1 : decide (1 ≤ L ∧ L ≤ 32)
    · have hb : lmIn p L = false := by unfold lmIn; rw [g0, g1]; rfl
      rw [(lm_no hb).1, (lm_no hb).2]
      rw [g0] at HC
      rw [g1] at HL
      clear g0 g1 hb
      go_enter Tryd.func22, Tryd.ntmps22
      go_wp2_with fail
      refine (HC.out _).mono ?_; rintro e w' ⟨rfl, rfl⟩
      go_wp2_with fail
      refine (HL.out _).mono ?_; rintro e w' ⟨rfl, rfl⟩
      go_wp2_with fail
      go_ret2
      exact ⟨rfl, Below.refl _ _⟩
    · have hb : lmIn p L = true := by unfold lmIn; rw [g0, g1]; rfl
      rw [(lm_yes hb).1, (lm_yes hb).2]
      obtain ⟨P, rfl, p1, p2, hg, p4, p5⟩ := ck_nat g0
      have hl := of_decide_eq_true g1
      rw [g0] at HC
      rw [g1] at HL
      obtain ⟨L, rfl⟩ := Int.eq_ofNat_of_zero_le (show 0 ≤ L by omega)
      rw [Int.toNat_natCast, Int.toNat_natCast]
      have HM := Lib.hid (fun c W (hc : c ≤ 4) => l08Count_any P L c W p1 p2 hg p4 p5 (by omega) hc)
      obtain ⟨D, hD⟩ : ∃ D, D = Nat.log2 P := ⟨_, rfl⟩
      rw [← hD] at HM ⊢
      have HF := Lib.hid (fun k h h1 h4 hc => lmS_first P D L k h h1 h4 hc)
      have HN := Lib.hid (fun h => lmS_none P D L h)
      have HLS := Lib.hid (fun k h => lmL_succ P D L k h)
      have H1 := Lib.hid (lmL_one P D L)
      clear g0 g1 hb hg p1 p2 p4 p5 hl hD
      go_enter Tryd.func22, Tryd.ntmps22
      go_wp2_with fail
      refine (HC.out _).mono ?_; rintro e w' ⟨rfl, rfl⟩
      go_wp2_with fail
      refine (HL.out _).mono ?_; rintro e w' ⟨rfl, rfl⟩
      go_wp2_with fail
      go_loopw [6] (fun i wr => ∃ k : Nat, i = .int .i64 (k : Int) ∧ 1 ≤ k ∧ k ≤ 5 ∧ lmL P D L k = [] ∧ Below w.heap.size w wr) (fun i _ => 5 - (intOf i).toNat)
      case atStart => exact ⟨1, rfl, Nat.le_refl _, by omega, H1.out, Below.refl _ _⟩
      case round =>
        obtain ⟨k, rfl, k1, k5, hk, hb⟩ := hrel
        have HB := Lib.hid hb
        have HK := Lib.hid hk
        clear hb hk
        by_cases hlt : k ≤ 4
        · have HX := Lib.hid (HM.out k wr hlt)
          have HS := Lib.hid (HLS.out k k1)
          by_cases hc : 0 < cmN P D L k
          · have hr := HF.out k HK.out k1 hlt hc
            have HRR := Lib.hid (ret_ib8 hr.1.symm (show true = !decide (lmS P D L = []) by rw [hr.2]; rfl))
            have hci : (0 : Int) < ((cmN P D L k : Nat) : Int) := by omega
            clear hr HS HF HN HLS H1
            generalize cmN P D L k = X at *
            go_wp2_with fail
            refine HX.out.mono ?_; rintro e w1 ⟨rfl, hb1⟩
            have B1 := Lib.hid (HB.out.trans (hb1.mono HB.out.size))
            clear hb1
            go_wp2_with fail
            go_ret2
            exact ⟨HRR.out, B1.out⟩
          · have hr : Hid (lmL P D L (k + 1) = []) := by show _ = _; rw [HS.out, if_neg hc, HK.out]
            have hc0 : cmN P D L k = 0 := by omega
            rw [hc0, show ((0 : Nat) : Int) = 0 from rfl] at HX
            clear HS HF HN HLS H1 hc0 hc
            go_wp2_with fail
            refine HX.out.mono ?_; rintro e w1 ⟨rfl, hb1⟩
            have B1 := Lib.hid (HB.out.trans (hb1.mono HB.out.size))
            clear hb1
            go_wp2_with fail
            go_roundw
            case rel => exact ⟨k + 1, by go_num, by omega, by omega, hr.out, B1.out⟩
            case measure => simp [intOf]; omega
        · obtain rfl : k = 5 := by omega
          have hr := HN.out HK.out
          have HRR := Lib.hid (ret_ib8 hr.1.symm (show false = !decide (lmS P D L = []) by rw [hr.2]; rfl))
          clear hr
          go_wp2_with fail
          go_ret2
          exact ⟨HRR.out, HB.out⟩

set_option maxRecDepth 100000 in
set_option maxHeartbeats 1000000 in
theorem leastMissed_impl (p L : Int) (w : World) (a a2 : Addr) (hv : Ev 0 a w) (hv2 : Ev 1 a2 w) :
    Calls Tryd.prog 23 #[.int .i64 p, .int .i64 L] w fun e w' => e = .returned (.tuple #[.int .i64 (lmV p L), .bool (lmOk p L)]) ∧ Below w.heap.size w w' := by
  have HL := Lib.hid (fun W => btw_b L 1 32 W)
  cases g0 : ckB p
  · have hb : lmIn p L = false := by unfold lmIn; rw [g0]; rfl
    rw [(lm_no hb).1, (lm_no hb).2]
    have HC := Lib.hid (dividerOf_no p a w hv g0)
    clear g0 hb hv hv2
    go_enter Tryd.func23, Tryd.ntmps23
    go_wp2_with fail
    refine HC.out.mono ?_; rintro e w1 ⟨rfl, hb1⟩
    have B1 := Lib.hid hb1
    clear hb1
    go_wp2_with fail
    go_ret2
    exact ⟨rfl, B1.out⟩
  · have HC := Lib.hid (dividerOf_yes p w g0)
    cases g1 : decide (1 ≤ L ∧ L ≤ 32)
    · have hb : lmIn p L = false := by unfold lmIn; rw [g0, g1]; rfl
      rw [(lm_no hb).1, (lm_no hb).2]
      rw [g1] at HL
      clear g0 g1 hb hv hv2
      go_enter Tryd.func23, Tryd.ntmps23
      go_wp2_with fail
      refine HC.out.mono ?_; rintro e w1 ⟨b, rfl, hlo, hd1, hb1⟩
      have B1 := Lib.hid hb1
      clear hb1 hlo hd1
      go_wp2_with fail
      refine (HL.out _).mono ?_; rintro e w' ⟨rfl, rfl⟩
      go_wp2_with fail
      go_ret2
      exact ⟨rfl, B1.out⟩
    · have hb : lmIn p L = true := by unfold lmIn; rw [g0, g1]; rfl
      rw [(lm_yes hb).1, (lm_yes hb).2]
      obtain ⟨P, rfl, p1, p2, hg, p4, p5⟩ := ck_nat g0
      rw [Int.toNat_natCast] at HC
      have hl := of_decide_eq_true g1
      rw [g1] at HL
      obtain ⟨L, rfl⟩ := Int.eq_ofNat_of_zero_le (show 0 ≤ L by omega)
      rw [Int.toNat_natCast, Int.toNat_natCast]
      obtain ⟨D, hD⟩ : ∃ D, D = Nat.log2 P := ⟨_, rfl⟩
      rw [← hD] at HC hg p4 ⊢
      have hL32 : L ≤ 32 := by omega
      have HI := Lib.hid (fun b S l n0 J Jx W hJ hY hb hS h00 k1 k2 hd h0 => changes_in 8 (by omega) P D L b S l n0 hg p4 hL32 J Jx W hJ hY hb hS h00 k1 k2 hd h0)
      have HV2 := Lib.hid hv2
      clear g0 g1 hb hg p1 p2 p4 p5 hl hD hL32 hv hv2
      go_enter Tryd.func23, Tryd.ntmps23
      go_wp2_with fail
      refine HC.out.mono ?_; rintro e w1 ⟨b, rfl, hlo, hd1, hb1⟩
      have B1 := Lib.hid hb1
      have D1 := Lib.hid hd1
      clear hb1 hlo hd1 HC
      go_wp2_with fail
      refine (HL.out _).mono ?_; rintro e w' ⟨rfl, rfl⟩
      go_wp2_with fail
      refine (missedChanges_any _ _ _).mono ?_; rintro e w3 ⟨rfl, rfl⟩
      obtain ⟨W3, hW3⟩ : ∃ W3, W3 = (w1.alloc (.cells #[.pointer (some ⟨b, 0, none⟩)] 42)).alloc (.cells #[.int .i64 (L : Int)] 2) := ⟨_, rfl⟩
      have HB3 : Hid (Below w1.heap.size w1 W3) := by show Below _ _ _; rw [hW3]; exact ((Below.refl _ w1).alloc (Nat.le_refl _) _).alloc (by simp) _
      have HZ3 : Hid (W3.heap.size = w1.heap.size + 2) := by show _ = _; rw [hW3]; simp
      have HK1 : Hid (Bk W3 w1.heap.size [.pointer (some ⟨b, 0, none⟩)]) := by show Bk _ _ _; rw [hW3]; exact (Bk.new w1 [.pointer (some ⟨b, 0, none⟩)] _ _ rfl).alloc _
      have HK2 : Hid (Bk W3 (w1.heap.size + 1) [.int .i64 (L : Int)]) := by show Bk _ _ _; rw [hW3]; exact Bk.new _ [.int .i64 (L : Int)] _ _ (by simp)
      have HD3 := Lib.hid (D1.out.keep HB3.out)
      have HE3 := Lib.hid ((HV2.out.keep B1.out).keep HB3.out)
      rw [← hW3]
      clear hW3
      have HLO := Lib.hid (leastOf_any (fun (c : Nat) => (c : Int)) 61 #[.pointer (some ⟨w1.heap.size, 0, none⟩), .pointer (some ⟨w1.heap.size + 1, 0, none⟩)] (fun ys => ys = lmL P D L 5) (fun _ => True) 5 W3 a2 HE3.out
        (enters_of Tryd.func61 (by kernel_rfl) rfl)
        (fun W hW l J Jx W' hW' hJ hJx hY h0 => HI.out b w1.heap.size l W3.heap.size J Jx W' hJ hY (by have := D1.out.lt; have := HZ3.out; omega) (by have := HZ3.out; omega) (Nat.le_trans hW.size hW'.size)
          ((HK1.out.keep hW).keep hW') ((HK2.out.keep hW).keep hW') ((HD3.out.keep hW).keep hW') h0))
      have HBW : Hid (Below w.heap.size w W3) := B1.out.trans (HB3.out.mono B1.out.size)
      clear HI HK1 HK2 HD3 HE3 HB3 D1
      go_wp2_with fail
      refine HLO.out.mono ?_; rintro e w4 ⟨⟨xs, rfl, rfl⟩, hb4⟩
      have HB4 : Hid (Below w.heap.size w w4) := HBW.out.trans (hb4.mono HBW.out.size)
      have HRE := Lib.hid (resultOf_any (lsV (lmS P D L)) a2 (lmS P D L) w4)
      rw [show (lmL P D L 5).map (fun (c : Nat) => (c : Int)) = lmS P D L from rfl]
      obtain ⟨Z, hZ⟩ : ∃ Z, Z = lsE a2 (lmS P D L) := ⟨_, rfl⟩
      rw [← hZ] at HRE ⊢
      clear hb4 hZ
      go_wp2_with fail
      refine HRE.out.mono ?_; rintro e w5 ⟨rfl, hb5⟩
      have HB5 : Hid (Below w.heap.size w w5) := HB4.out.trans (hb5.mono HB4.out.size)
      clear hb5
      go_wp2_with fail
      go_ret2
      exact ⟨rfl, HB5.out⟩
end Go.Proofs.YtkgfmpkpeipddabDoor
