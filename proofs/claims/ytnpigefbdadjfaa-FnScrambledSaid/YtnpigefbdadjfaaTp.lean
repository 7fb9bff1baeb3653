/- What both sides ask of taps. -/
import Derived.Test.YtnpigefbdadjfaaRd
import Derived.Test.YtnpigefbdadjfaaBtw
import Derived.Test.YtnpigefbdadjfaaScP
import Derived.Deep.QuietTactic
import Derived.BigQuiet
namespace Go.Proofs.Ytnpigefbdadjfaa
open Go Go.RowKit
set_option linter.unusedVariables false
theorem quiet_tp {P : Program} {f : FuncId} {args : Array Value} {w : World} {q n : Nat} {v : Value}
    (h : Calls P f args (w.drewN (q + n)) fun e w' => e = .returned v ∧ w.drewN (q + n) = w') : Calls P f args (w.drewN (q + n)) fun e w'' => e = .returned v ∧ ∃ m, w'' = w.drewN (q + m) :=
  h.mono fun _ _ ⟨he, hm⟩ => ⟨he, n, hm.symm⟩

set_option maxRecDepth 100000 in
set_option maxHeartbeats 1000000 in
theorem isInc_any (w : World) (v : Value) (l : List Int) (hb : ∀ n ∈ l, -9223372036854775808 ≤ n ∧ n ≤ 9223372036854775807) (h : Rd w v l) :
    Calls Try.prog 78 #[v] w fun e w' => e = .returned (.bool (inc l)) ∧ ∃ q, w' = w.drewN q := by
  have hlen := h.len
  obtain ⟨A, n, c, rfl, hn, -, -, r⟩ := h
  have hnl : n ≤ 9223372036854775807 := by unfold maxLen at hlen; omega
  have HN := Lib.hid hn
  have HR := Lib.hid r
  have HBD := Lib.hid (@inc_bad l)
  have HUP := Lib.hid (@inc_upto l)
  clear hn r hlen hb
  go_enter Try.func78, Try.ntmps78
  go_wp2_with fail
  go_loopw [6] (fun i wr => ∃ k q : Nat, k ≤ n ∧ i = .int .i64 k ∧ wr = w.drewN q ∧ ∀ j (hj : j < l.length), j < k → (h0 : 0 < j) → l[j - 1]'(by omega) < l[j]) (fun i _ => n - (intOf i).toNat)
  case atStart => exact ⟨0, 0, Nat.zero_le _, rfl, rfl, fun j _ h => by omega⟩
  case round =>
    obtain ⟨k, q, hk, rfl, rfl, hbe⟩ := hrel
    have HBE := Lib.hid hbe
    clear hbe
    by_cases hlt : k < n
    · obtain ⟨b, o, rfl, hlt0, hc⟩ := HR.out (by omega)
      have hkl : k < l.length := by have := HN.out; omega
      have hc0 := hc k hkl
      have hk0 : (0 : Int) ≤ (k : Int) := by omega
      have hk1 : (k : Int) < (n : Int) := by omega
      by_cases hz : k = 0
      · subst hz
        clear hc hc0
        go_wp2_with fail
        go_quiet (fail)
        go_wp2_with fail
        go_roundw
        case rel => exact ⟨1, _, by omega, by go_num, rfl, fun j hj hjk h0 => by omega⟩
        case measure => simp [intOf]; omega
      · have hc1 := hc (k - 1) (by omega)
        have HX := Lib.hid (fun (h : ¬ l[k - 1]'(by omega) < l[k]) => HBD.out k hkl (by omega) (by omega))
        have hw : IntKind.i64.wrap ((k : Int) - 1) = (k : Int) - 1 := IntWalk.i64_in _ (by omega)
        have hkm : (k : Int) - 1 = ((k - 1 : Nat) : Int) := by omega
        have hk3 : (0 : Int) < (k : Int) := by omega
        have hkn : 0 < k := by omega
        have hkd : decide (0 < k) = true := decide_eq_true hkn
        have hk4 : (0 : Int) ≤ (k : Int) - 1 := by omega
        have hk5 : (k : Int) - 1 < (n : Int) := by omega
        have hk6 : ((k : Int) - 1).toNat = k - 1 := by omega
        obtain ⟨y, hy⟩ : ∃ y, l[k] = y := ⟨_, rfl⟩
        obtain ⟨x, hx⟩ : ∃ x, l[k - 1]'(by omega) = x := ⟨_, rfl⟩
        rw [hy] at hc0 HX
        rw [hx] at hc1 HX
        have HXY := Lib.hid (And.intro hx hy)
        clear hc hx hy
        by_cases hxy : x < y
        · have hle : ¬ y ≤ x := by omega
          go_wp2_with fail
          go_quiet (fail)
          go_wp2_with fail
          go_roundw
          case rel => exact ⟨k + 1, _, by omega, by go_num, rfl, fun j hj hjk h0 => by
            by_cases e : j = k
            · subst e; rw [HXY.out.1, HXY.out.2]; exact hxy
            · exact HBE.out j hj (by omega) h0⟩
          case measure => simp [intOf]; omega
        · have HZ := Lib.hid (HX.out hxy)
          have hle : y ≤ x := by omega
          go_wp2_with fail
          go_quiet (fail)
          go_wp2_with fail
          go_ret
          exact ⟨ret_bool (by rw [HZ.out]), _, World.drewN_drewN _ _ _⟩
    · have HZ := Lib.hid (HUP.out (fun j hj h0 => HBE.out j hj (by have := HN.out; omega) h0))
      go_wp2_with fail
      go_ret
      exact ⟨ret_bool (by rw [HZ.out]), _, rfl⟩

set_option maxRecDepth 100000 in
theorem widthOf_any (w : World) (v : Value) (l : List Int) (h0 : 0 < l.length) (h : Rd w v l) :
    Calls Try.prog 53 #[v] w fun e w' => e = .returned (.int .i64 (wid l)) ∧ ∃ q, w' = w.drewN q := by
  have hlen := h.len
  obtain ⟨A, n, c, rfl, hn, -, -, r⟩ := h
  have hnl : n ≤ 9223372036854775807 := by unfold maxLen at hlen; omega
  obtain ⟨b, o, rfl, hlt0, hc⟩ := r (by omega)
  have hc0 := hc (l.length - 1) (by omega)
  rw [← wid_at h0] at hc0
  rw [hn] at hc0 h0
  generalize wid l = y at *
  clear hc hlen hn r
  have hw : IntKind.i64.wrap ((n : Int) - 1) = (n : Int) - 1 := IntWalk.i64_in _ (by omega)
  have hk4 : (0 : Int) ≤ (n : Int) - 1 := by omega
  have hk5 : (n : Int) - 1 < (n : Int) := by omega
  have hk6 : ((n : Int) - 1).toNat = n - 1 := by omega
  go_enter Try.func53, Try.ntmps53
  go_wp2_with fail
  first | (go_ret; exact ⟨rfl, 0, rfl⟩) | (go_quiet (fail); go_wp2_with fail; go_ret; exact ⟨rfl, _, rfl⟩)

set_option maxRecDepth 100000 in
theorem areTaps_any (w : World) (v : Value) (l : List Int) (hb : ∀ n ∈ l, -9223372036854775808 ≤ n ∧ n ≤ 9223372036854775807) (h : Rd w v l) :
    Calls Try.prog 54 #[v] w fun e w' => e = .returned (.bool (tpOk l)) ∧ ∃ q, w' = w.drewN q := by
  have HI := Lib.hid (fun W h => isInc_any W v l hb h)
  have HWD := Lib.hid (fun W h h0 => widthOf_any W v l h0 h)
  have HR := Lib.hid (fun q => h.drewN q)
  have hlen := h.len
  have hq := h
  obtain ⟨A, n, c, rfl, hn, -, -, r⟩ := hq
  have hnl : n ≤ 9223372036854775807 := by unfold maxLen at hlen; omega
  by_cases h0 : 0 < l.length
  · have hE : tpOk l = (inc l && tpR l) := by unfold tpOk; rw [decide_eq_true h0, Bool.true_and]
    have H0 := Lib.hid h0
    have hn0 : (0 : Int) < (n : Int) := by omega
    have hn1 : 0 < n := by omega
    cases hi : inc l
    · rw [hi, Bool.false_and] at hE
      have HE := Lib.hid hE
      rw [hi] at HI
      clear hE h r hi hn hlen HWD hb h0
      go_enter Try.func54, Try.ntmps54
      go_wp2_with fail
      refine (HI.out _ (HR.out 0)).mono ?_; rintro e w' ⟨rfl, q, rfl⟩
      go_wp2_with fail
      go_ret
      exact ⟨ret_bool (by rw [HE.out]), _, rfl⟩
    · rw [tp_prog h0 hi, hi, Bool.true_and] at hE
      have HE := Lib.hid hE
      rw [hi] at HI
      obtain ⟨b, o, rfl, hlt0, hc⟩ := r hn1
      have hc0 : w.cell? ⟨b, o, none⟩ = some (.int .i64 l[0]) := hc 0 h0
      clear hE h r hi hn hlen hc hb
      generalize l[0] = y at *
      generalize wid l = m at *
      by_cases hy : 1 ≤ y
      · by_cases hm : m ≤ 16
        · rw [decide_eq_true hy, decide_eq_true hm] at HE
          clear h0
          go_enter Try.func54, Try.ntmps54
          go_wp2_with fail
          refine (HI.out _ (HR.out 0)).mono ?_; rintro e w' ⟨rfl, q, rfl⟩
          go_wp2_with fail
          refine (HWD.out _ (HR.out _) H0.out).mono ?_; rintro e w' ⟨rfl, q2, rfl⟩
          go_wp2_with fail
          go_ret
          exact ⟨ret_bool (by rw [HE.out]; first | rfl | simp [hm] | (rw [Bool.true_and]; exact decide_eq_false (by omega))), _, rfl⟩
        · rw [decide_eq_true hy, decide_eq_false hm] at HE
          clear h0
          go_enter Try.func54, Try.ntmps54
          go_wp2_with fail
          refine (HI.out _ (HR.out 0)).mono ?_; rintro e w' ⟨rfl, q, rfl⟩
          go_wp2_with fail
          refine (HWD.out _ (HR.out _) H0.out).mono ?_; rintro e w' ⟨rfl, q2, rfl⟩
          go_wp2_with fail
          go_ret
          exact ⟨ret_bool (by rw [HE.out]; first | rfl | simp [hm] | (rw [Bool.true_and]; exact decide_eq_false (by omega))), _, rfl⟩
      · rw [decide_eq_false hy, Bool.false_and] at HE
        clear h0 HWD
        go_enter Try.func54, Try.ntmps54
        go_wp2_with fail
        refine (HI.out _ (HR.out 0)).mono ?_; rintro e w' ⟨rfl, q, rfl⟩
        go_wp2_with fail
        go_ret
        exact ⟨ret_bool (by rw [HE.out]), _, rfl⟩
  · have HE : Hid (tpOk l = false) := by show _ = _; unfold tpOk; rw [decide_eq_false h0, Bool.false_and]
    have hn0 : ¬ (0 : Int) < (n : Int) := by omega
    clear h r hn hlen h0 HI HWD HR hb
    go_enter Try.func54, Try.ntmps54
    go_wp2_with fail
    go_ret
    exact ⟨ret_bool (by rw [HE.out]), 0, rfl⟩
end Go.Proofs.Ytnpigefbdadjfaa
