/- What both sides ask of taps. -/
import Derived.Test.YtddlpbpcdjddpaaRd
import Derived.Test.YtddlpbpcdjddpaaBtw
import Derived.Test.YtddlpbpcdjddpaaScP
import Derived.Deep.QuietTactic
import Derived.BigQuiet
namespace Go.Proofs.Ytddlpbpcdjddpaa
open Go Go.RowKit
set_option linter.unusedVariables false
theorem quiet_tp {P : Program} {f : FuncId} {args : Array Value} {w : World} {q n : Nat} {v : Value}
    (h : Calls P f args (w.drewN (q + n)) fun e w' => e = .returned v ∧ w.drewN (q + n) = w') : Calls P f args (w.drewN (q + n)) fun e w'' => e = .returned v ∧ ∃ m, w'' = w.drewN (q + m) :=
  h.mono fun _ _ ⟨he, hm⟩ => ⟨he, n, hm.symm⟩

set_option maxRecDepth 100000 in
set_option maxHeartbeats 1000000 in
theorem isInc_any (w : World) (v : Value) (l : List Int) (hb : ∀ n ∈ l, -9223372036854775808 ≤ n ∧ n ≤ 9223372036854775807) (h : Rd w v l) :
    Calls Try.prog 82 #[v] w fun e w' => e = .returned (.bool (inc l)) ∧ ∃ q, w' = w.drewN q := by
  have hlen := h.len
  obtain ⟨A, n, c, rfl, hn, -, -, r⟩ := h
  have hnl : n ≤ 9223372036854775807 := by unfold maxLen at hlen; omega
  have HN := Lib.hid hn
  have HR := Lib.hid r
  have HBD := Lib.hid (@inc_bad l)
  have HUP := Lib.hid (@inc_upto l)
  clear hn r hlen hb
  go_enter Try.func82, Try.ntmps82
  go_wp2_with fail
  go_loopw [6] (fun i wr => ∃ k q : Nat, k ≤ n ∧ i = .int .i64 k ∧ wr = w.drewN q ∧ ∀ j (hj : j < l.length), j < k → (h0 : 0 < j) → l[j - 1]'(by omega) < l[j]) (fun i _ => n - (intOf i).toNat)
  case atStart => exact ⟨0, 0, Nat.zero_le _, rfl, rfl, fun j _ h => by omega⟩
  case round =>
    obtain ⟨k, q, hk, rfl, rfl, hbe⟩ := hrel
    have HBE := Lib.hid hbe
    clear hbe
    by_cases hlt : k < n
    · obtain ⟨b, o, rfl, hlt0, hc⟩ := HR.out (by omega)
      have hkl : k < l.length := by have := HN.out; omega
      have hc0 := hc k hkl
      have hk0 : (0 : Int) ≤ (k : Int) := by omega
      have hk1 : (k : Int) < (n : Int) := by omega
      by_cases hz : k = 0
      · subst hz
        clear hc hc0
        go_wp2_with fail
        go_quiet (fail)
        go_wp2_with fail
        go_roundw
        case rel => exact ⟨1, _, by omega, by go_num, rfl, fun j hj hjk h0 => by omega⟩
        case measure => simp [intOf]; omega
      · have hc1 := hc (k - 1) (by omega)
        have HX := Lib.hid (fun (h : ¬ l[k - 1]'(by omega) < l[k]) => HBD.out k hkl (by omega) (by omega))
        have hw : IntKind.i64.wrap ((k : Int) - 1) = (k : Int) - 1 := IntWalk.i64_in _ (by omega)
        have hkm : (k : Int) - 1 = ((k - 1 : Nat) : Int) := by omega
        have hk3 : (0 : Int) < (k : Int) := by omega
        have hkn : 0 < k := by omega
        have hkd : decide (0 < k) = true := decide_eq_true hkn
        have hk4 : (0 : Int) ≤ (k : Int) - 1 := by omega
        have hk5 : (k : Int) - 1 < (n : Int) := by omega
        have hk6 : ((k : Int) - 1).toNat = k - 1 := by omega
        obtain ⟨y, hy⟩ : ∃ y, l[k] = y := ⟨_, rfl⟩
        obtain ⟨x, hx⟩ : ∃ x, l[k - 1]'(by omega) = x := ⟨_, rfl⟩
        rw [hy] at hc0 HX
        rw [hx] at hc1 HX
        have HXY := Lib.hid (And.intro hx hy)
        clear hc hx hy
        by_cases hxy : x < y
        · have hle : ¬ y ≤ x := by omega
          go_wp2_with fail
          go_quiet (fail)
          go_wp2_with fail
          go_roundw
          case rel => exact ⟨k + 1, _, by omega, by go_num, rfl, fun j hj hjk h0 => by
            by_cases e : j = k
            · subst e; rw [HXY.out.1, HXY.out.2]; exact hxy
            · exact HBE.out j hj (by omega) h0⟩
          case measure => simp [intOf]; omega
        · have HZ := Lib.hid (HX.out hxy)
          have hle : y ≤ x := by omega
          go_wp2_with fail
          go_quiet (fail)
          go_wp2_with fail
          go_ret
          exact ⟨ret_bool (by rw [HZ.out]), _, World.drewN_drewN _ _ _⟩
    · have HZ := Lib.hid (HUP.out (fun j hj h0 => HBE.out j hj (by have := HN.out; omega) h0))
      go_wp2_with fail
      go_ret
      exact ⟨ret_bool (by rw [HZ.out]), _, rfl⟩

set_option maxRecDepth 100000 in
set_option maxHeartbeats 1000000 in
theorem l00Rises_tp (w : World) (v : Value) (l : List Int) (hb : ∀ n ∈ l, -9223372036854775808 ≤ n ∧ n ≤ 9223372036854775807) (h : Rd w v l) :
    Calls Try.prog 80 #[v, .int .i64 1, .int .i64 16] w fun e w' => e = .returned (.bool (inc l && tpR l)) ∧ ∃ q, w' = w.drewN q := by
  have hlen := h.len
  obtain ⟨A, n, c, rfl, hn, -, -, r⟩ := h
  have hnl : n ≤ 9223372036854775807 := by unfold maxLen at hlen; omega
  have HN := Lib.hid hn
  have HR := Lib.hid r
  have HBD := Lib.hid (@inc_bad l)
  have HUP := Lib.hid (@inc_upto l)
  have HBY := Lib.hid (@tpR_bad l)
  have HBU := Lib.hid (@tpR_upto l)
  clear hn r hlen hb
  go_enter Try.func80, Try.ntmps80
  go_wp2_with fail
  go_loopw [7] (fun i wr => ∃ k q : Nat, k ≤ n ∧ i = .int .i64 k ∧ wr = w.drewN q ∧ (∀ j (hj : j < l.length), j < k → (h0 : 0 < j) → l[j - 1]'(by omega) < l[j]) ∧ ∀ j (hj : j < l.length), j < k → 1 ≤ l[j] ∧ l[j] ≤ 16) (fun i _ => n - (intOf i).toNat)
  case atStart => exact ⟨0, 0, Nat.zero_le _, rfl, rfl, fun j _ h => by omega, fun j _ h => by omega⟩
  case round =>
    obtain ⟨k, q, hk, rfl, rfl, hbe, hbf⟩ := hrel
    have HBE := Lib.hid hbe
    have HBF := Lib.hid hbf
    clear hbe hbf
    by_cases hlt : k < n
    · obtain ⟨b, o, rfl, hlt0, hc⟩ := HR.out (by omega)
      have hkl : k < l.length := by have := HN.out; omega
      have hc0 := hc k hkl
      have hk0 : (0 : Int) ≤ (k : Int) := by omega
      have hk1 : (k : Int) < (n : Int) := by omega
      have HX2 := Lib.hid (fun h => HBY.out k hkl h)
      obtain ⟨y, hy⟩ : ∃ y, l[k] = y := ⟨_, rfl⟩
      rw [hy] at hc0 HX2
      by_cases hyr : 1 ≤ y ∧ y ≤ 16
      rotate_left
      · have HZ := Lib.hid (HX2.out hyr)
        have HH := Lib.hid hyr
        clear hc hy hyr
        go_wp2_with fail
        go_quiet ((go_at_call 46; exact quiet_tp (l00In_no _ _ _ _ HH.out)))
        go_wp2_with fail
        go_ret
        exact ⟨ret_bool (by rw [HZ.out, Bool.and_false]), _, World.drewN_drewN _ _ _⟩
      obtain ⟨y0, y1⟩ := hyr
      by_cases hz : k = 0
      · subst hz
        have HY := Lib.hid hy
        have hc00 : w.cell? ⟨b, o, none⟩ = some (.int .i64 y) := hc0
        have hn0 : 0 < n := by omega
        clear hc hy hc0
        go_wp2_with fail
        go_quiet ((go_at_call 46; exact quiet_tp (l00In_yes _ _ _ _ y0 y1)))
        go_wp2_with fail
        go_roundw
        case rel => exact ⟨1, _, by omega, by go_num, rfl, fun j hj hjk h0 => by omega, fun j hj hjk => by
          obtain rfl : j = 0 := by omega
          rw [HY.out]; exact ⟨y0, y1⟩⟩
        case measure => simp [intOf]; omega
      · have hc1 := hc (k - 1) (by omega)
        have HX := Lib.hid (fun (h : ¬ l[k - 1]'(by omega) < l[k]) => HBD.out k hkl (by omega) (by omega))
        have hw : IntKind.i64.wrap ((k : Int) - 1) = (k : Int) - 1 := IntWalk.i64_in _ (by omega)
        have hk3 : (0 : Int) < (k : Int) := by omega
        have hkn : 0 < k := by omega
        have hkd : decide (0 < k) = true := decide_eq_true hkn
        have hk4 : (0 : Int) ≤ (k : Int) - 1 := by omega
        have hk5 : (k : Int) - 1 < (n : Int) := by omega
        have hk6 : ((k : Int) - 1).toNat = k - 1 := by omega
        obtain ⟨x, hx⟩ : ∃ x, l[k - 1]'(by omega) = x := ⟨_, rfl⟩
        rw [hy] at HX
        rw [hx] at hc1 HX
        have HXY := Lib.hid (And.intro hx hy)
        clear hc hx hy
        by_cases hxy : x < y
        · have hle : ¬ y ≤ x := by omega
          go_wp2_with fail
          go_quiet ((go_at_call 46; exact quiet_tp (l00In_yes _ _ _ _ y0 y1)))
          go_wp2_with fail
          go_roundw
          case rel => exact ⟨k + 1, _, by omega, by go_num, rfl, fun j hj hjk h0 => by
            by_cases e : j = k
            · subst e; rw [HXY.out.1, HXY.out.2]; exact hxy
            · exact HBE.out j hj (by omega) h0, fun j hj hjk => by
            by_cases e : j = k
            · subst e; rw [HXY.out.2]; exact ⟨y0, y1⟩
            · exact HBF.out j hj (by omega)⟩
          case measure => simp [intOf]; omega
        · have HZ := Lib.hid (HX.out hxy)
          have hle : y ≤ x := by omega
          go_wp2_with fail
          go_quiet ((go_at_call 46; exact quiet_tp (l00In_yes _ _ _ _ y0 y1)))
          go_wp2_with fail
          go_ret
          exact ⟨ret_bool (by rw [HZ.out, Bool.false_and]), _, World.drewN_drewN _ _ _⟩
    · have HZ := Lib.hid (HUP.out (fun j hj h0 => HBE.out j hj (by have := HN.out; omega) h0))
      have HZ2 := Lib.hid (HBU.out (fun j hj => HBF.out j hj (by have := HN.out; omega)))
      go_wp2_with fail
      go_ret
      exact ⟨ret_bool (by rw [HZ.out, HZ2.out]; rfl), _, rfl⟩

set_option maxRecDepth 100000 in
theorem l06Taps_any (w : World) (v : Value) (l : List Int) (hb : ∀ n ∈ l, -9223372036854775808 ≤ n ∧ n ≤ 9223372036854775807) (h : Rd w v l) :
    Calls Try.prog 55 #[v] w fun e w' => e = .returned (.bool (tpOk l)) ∧ ∃ q, w' = w.drewN q := by
  have hm := tp_model l
  have HR := Lib.hid (l00Rises_tp w v l hb h)
  have hlen := h.len
  obtain ⟨A, n, c, rfl, hn, -, -, -⟩ := h
  rw [hn] at hm hlen
  have hnl : n ≤ 9223372036854775807 := by unfold maxLen at hlen; omega
  clear hn hlen hb
  generalize tpOk l = R at *
  generalize (inc l && tpR l) = S at *
  by_cases h1 : 1 ≤ (n : Int) ∧ (n : Int) ≤ 16
  · rw [decide_eq_true h1, Bool.true_and] at hm
    have HM := Lib.hid hm
    obtain ⟨a1, a2⟩ := h1
    clear hm
    cases S
    all_goals
      go_enter Try.func55, Try.ntmps55
      go_wp2_with fail
      refine (l00In_yes _ _ _ _ a1 a2).mono ?_; rintro e w' ⟨rfl, rfl⟩
      go_wp2_with fail
      refine HR.out.mono ?_; rintro e w' ⟨rfl, q, rfl⟩
      go_wp2_with fail
      go_ret
      exact ⟨ret_bool (by rw [HM.out]), _, rfl⟩
  · rw [decide_eq_false h1, Bool.false_and] at hm
    have HM := Lib.hid hm
    have H1 := Lib.hid h1
    clear hm h1
    go_enter Try.func55, Try.ntmps55
    go_wp2_with fail
    refine (l00In_no _ _ _ _ H1.out).mono ?_; rintro e w' ⟨rfl, rfl⟩
    go_wp2_with fail
    go_ret
    exact ⟨ret_bool (by rw [HM.out]), 0, rfl⟩

set_option maxRecDepth 100000 in
theorem widthOf_any (w : World) (v : Value) (l : List Int) (h0 : 0 < l.length) (h : Rd w v l) :
    Calls Try.prog 45 #[v] w fun e w' => e = .returned (.int .i64 (wid l)) ∧ ∃ q, w' = w.drewN q := by
  have hlen := h.len
  obtain ⟨A, n, c, rfl, hn, -, -, r⟩ := h
  have hnl : n ≤ 9223372036854775807 := by unfold maxLen at hlen; omega
  obtain ⟨b, o, rfl, hlt0, hc⟩ := r (by omega)
  have hc0 := hc (l.length - 1) (by omega)
  rw [← wid_at h0] at hc0
  rw [hn] at hc0 h0
  generalize wid l = y at *
  clear hc hlen hn r
  have hw : IntKind.i64.wrap ((n : Int) - 1) = (n : Int) - 1 := IntWalk.i64_in _ (by omega)
  have hk4 : (0 : Int) ≤ (n : Int) - 1 := by omega
  have hk5 : (n : Int) - 1 < (n : Int) := by omega
  have hk6 : ((n : Int) - 1).toNat = n - 1 := by omega
  go_enter Try.func45, Try.ntmps45
  go_wp2_with fail
  first | (go_ret; exact ⟨rfl, 0, rfl⟩) | (go_quiet (fail); go_wp2_with fail; go_ret; exact ⟨rfl, _, rfl⟩)

set_option maxRecDepth 100000 in
theorem areTaps_any (w : World) (v : Value) (l : List Int) (hb : ∀ n ∈ l, -9223372036854775808 ≤ n ∧ n ≤ 9223372036854775807) (h : Rd w v l) :
    Calls Try.prog 57 #[v] w fun e w' => e = .returned (.bool (tpOk l)) ∧ ∃ q, w' = w.drewN q := by
  have HI := Lib.hid (fun W h => isInc_any W v l hb h)
  have HWD := Lib.hid (fun W h h0 => widthOf_any W v l h0 h)
  have HR := Lib.hid (fun q => h.drewN q)
  have hlen := h.len
  have hq := h
  obtain ⟨A, n, c, rfl, hn, -, -, r⟩ := hq
  have hnl : n ≤ 9223372036854775807 := by unfold maxLen at hlen; omega
  by_cases h0 : 0 < l.length
  · have hE : tpOk l = (inc l && tpR l) := by unfold tpOk; rw [decide_eq_true h0, Bool.true_and]
    have H0 := Lib.hid h0
    have hn0 : (0 : Int) < (n : Int) := by omega
    have hn1 : 0 < n := by omega
    cases hi : inc l
    · rw [hi, Bool.false_and] at hE
      have HE := Lib.hid hE
      rw [hi] at HI
      clear hE h r hi hn hlen HWD hb h0
      go_enter Try.func57, Try.ntmps57
      go_wp2_with fail
      refine (HI.out _ (HR.out 0)).mono ?_; rintro e w' ⟨rfl, q, rfl⟩
      go_wp2_with fail
      go_ret
      exact ⟨ret_bool (by rw [HE.out]), _, rfl⟩
    · rw [tp_prog h0 hi, hi, Bool.true_and] at hE
      have HE := Lib.hid hE
      rw [hi] at HI
      obtain ⟨b, o, rfl, hlt0, hc⟩ := r hn1
      have hc0 : w.cell? ⟨b, o, none⟩ = some (.int .i64 l[0]) := hc 0 h0
      clear hE h r hi hn hlen hc hb
      generalize l[0] = y at *
      generalize wid l = m at *
      by_cases hy : 1 ≤ y
      · by_cases hm : m ≤ 16
        · rw [decide_eq_true hy, decide_eq_true hm] at HE
          clear h0
          go_enter Try.func57, Try.ntmps57
          go_wp2_with fail
          refine (HI.out _ (HR.out 0)).mono ?_; rintro e w' ⟨rfl, q, rfl⟩
          go_wp2_with fail
          refine (HWD.out _ (HR.out _) H0.out).mono ?_; rintro e w' ⟨rfl, q2, rfl⟩
          go_wp2_with fail
          go_ret
          exact ⟨ret_bool (by rw [HE.out]; first | rfl | simp [hm] | (rw [Bool.true_and]; exact decide_eq_false (by omega))), _, rfl⟩
        · rw [decide_eq_true hy, decide_eq_false hm] at HE
          clear h0
          go_enter Try.func57, Try.ntmps57
          go_wp2_with fail
          refine (HI.out _ (HR.out 0)).mono ?_; rintro e w' ⟨rfl, q, rfl⟩
          go_wp2_with fail
          refine (HWD.out _ (HR.out _) H0.out).mono ?_; rintro e w' ⟨rfl, q2, rfl⟩
          go_wp2_with fail
          go_ret
          exact ⟨ret_bool (by rw [HE.out]; first | rfl | simp [hm] | (rw [Bool.true_and]; exact decide_eq_false (by omega))), _, rfl⟩
      · rw [decide_eq_false hy, Bool.false_and] at HE
        clear h0 HWD
        go_enter Try.func57, Try.ntmps57
        go_wp2_with fail
        refine (HI.out _ (HR.out 0)).mono ?_; rintro e w' ⟨rfl, q, rfl⟩
        go_wp2_with fail
        go_ret
        exact ⟨ret_bool (by rw [HE.out]), _, rfl⟩
  · have HE : Hid (tpOk l = false) := by show _ = _; unfold tpOk; rw [decide_eq_false h0, Bool.false_and]
    have hn0 : ¬ (0 : Int) < (n : Int) := by omega
    clear h r hn hlen h0 HI HWD HR hb
    go_enter Try.func57, Try.ntmps57
    go_wp2_with fail
    go_ret
    exact ⟨ret_bool (by rw [HE.out]), 0, rfl⟩
end Go.Proofs.Ytddlpbpcdjddpaa
