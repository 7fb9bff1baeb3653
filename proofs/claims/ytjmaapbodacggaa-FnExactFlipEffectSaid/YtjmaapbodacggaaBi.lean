/- Contracts of the model's l03Is and ValidBlockCode. -/
import Derived.Test.YtjmaapbodacggaaBm
import Derived.Test.YtjmaapbodacggaaBc
namespace Go.Proofs.Ytjmaapbodacggaa
open Go Go.RowKit
set_option linter.unusedVariables false

theorem bcOk_f1 {d wd : Int} {m p : List ByteArray} (h : szOk d wd = false) : bcOk d wd m p = false := by unfold bcOk; rw [h]; rfl
theorem szOk_f {d wd : Int} (h : ¬ ((1 ≤ d ∧ d ≤ 6) ∧ (2 ≤ wd ∧ wd ≤ 12) ∧ wd % 2 = 0)) : szOk d wd = false := decide_eq_false h
theorem szOk_t {d wd : Int} (h1 : 1 ≤ d ∧ d ≤ 6) (h2 : 2 ≤ wd ∧ wd ≤ 12) (h3 : wd % 2 = 0) : szOk d wd = true := decide_eq_true ⟨h1, h2, h3⟩

set_option maxHeartbeats 1600000 in
set_option maxRecDepth 100000 in
theorem l03Is_sizes (w : World) (b : Nat) (d wd : Int) (vm vp : Value) (m p : List ByteArray) (hc : Bk w b (bcV d wd vm vp)) (hno : szOk d wd = false) :
    Calls Try.prog 108 #[.pointer (some ⟨b, 0, none⟩)] w fun e w' => e = .returned (.bool (bcOk d wd m p)) ∧ ∃ q, w' = w.drewN q := by
  have HE := Lib.hid (bcOk_f1 (m := m) (p := p) hno)
  have c0 := hc.c 0 _ rfl
  have c1 := hc.c 1 _ rfl
  unfold szOk at hno
  have hno := of_decide_eq_false hno
  clear hc
  by_cases h1 : 1 ≤ d ∧ d ≤ 6
  · obtain ⟨d1, d2⟩ := h1
    by_cases h2 : 2 ≤ wd ∧ wd ≤ 12
    · obtain ⟨w1, w2⟩ := h2
      have h3 : (wd % 2 != 0) = true := bne_t (fun e => hno ⟨⟨d1, d2⟩, ⟨w1, w2⟩, e⟩)
      clear hno
      go_enter Try.func108, Try.ntmps108
      go_wp2_with fail
      refine (l00In_yes _ _ _ _ d1 d2).mono ?_; rintro e w' ⟨rfl, rfl⟩
      go_wp2_with fail
      refine (l00In_yes _ _ _ _ w1 w2).mono ?_; rintro e w' ⟨rfl, rfl⟩
      go_wp2_with fail
      go_ret
      exact ⟨ret_bool HE.out.symm, 0, rfl⟩
    · have H2 := Lib.hid h2
      clear h2 hno
      go_enter Try.func108, Try.ntmps108
      go_wp2_with fail
      refine (l00In_yes _ _ _ _ d1 d2).mono ?_; rintro e w' ⟨rfl, rfl⟩
      go_wp2_with fail
      refine (l00In_no _ _ _ _ H2.out).mono ?_; rintro e w' ⟨rfl, rfl⟩
      go_wp2_with fail
      go_ret
      exact ⟨ret_bool HE.out.symm, 0, rfl⟩
  · have H1 := Lib.hid h1
    clear h1 hno
    go_enter Try.func108, Try.ntmps108
    go_wp2_with fail
    refine (l00In_no _ _ _ _ H1.out).mono ?_; rintro e w' ⟨rfl, rfl⟩
    go_wp2_with fail
    go_ret
    exact ⟨ret_bool HE.out.symm, 0, rfl⟩

set_option maxHeartbeats 1600000 in
set_option maxRecDepth 100000 in
theorem l03Is_any (w : World) (b : Nat) (d wd : Int) (vm vp : Value) (m p : List ByteArray) (hc : Bk w b (bcV d wd vm vp)) (hm : RdS w vm m) (hp : RdS w vp p) (sm : ∀ s ∈ m, s.size ≤ 4000000) (sp : ∀ s ∈ p, s.size ≤ 4000000) :
    Calls Try.prog 108 #[.pointer (some ⟨b, 0, none⟩)] w fun e w' => e = .returned (.bool (bcOk d wd m p)) ∧ ∃ q, w' = w.drewN q := by
  cases hz : szOk d wd
  · exact l03Is_sizes w b d wd vm vp m p hc hz
  have hB : bcOk d wd m p = (decide (m.length = 2 ^ d.toNat) && (decide (p.length = 2 ^ d.toNat) && (wordsOk wd 2 m && (wordsOk wd (-2) p && crossB p m 0)))) := by unfold bcOk; rw [hz]; rfl
  have hz' := of_decide_eq_true hz
  obtain ⟨⟨d1, d2⟩, ⟨w1, w2⟩, w3⟩ := hz'
  have h3 : (wd % 2 != 0) = false := bne_f w3
  obtain ⟨d, rfl⟩ := Int.eq_ofNat_of_zero_le (show 0 ≤ d by omega)
  rw [Int.toNat_natCast] at hB
  have c0 := hc.c 0 _ rfl
  have c1 := hc.c 1 _ rfl
  have c2 := hc.c 2 _ rfl
  have c3 := hc.c 3 _ rfl
  have WM : Hid (∀ n, Calls Try.prog 133 #[vm, .int .i64 wd, .int .i64 2] (w.drewN n) fun e w'' => e = .returned (.bool (wordsOk wd 2 m)) ∧ ∃ q, w'' = w.drewN q) := by
    show ∀ n, _
    exact fun n => (l03Words_any _ vm m wd 2 (hm.drewN n) sm).mono fun _ _ ⟨he, q, hq⟩ => ⟨he, n + q, by rw [hq, World.drewN_drewN]⟩
  have WP : Hid (∀ n, Calls Try.prog 133 #[vp, .int .i64 wd, .int .i64 (-2)] (w.drewN n) fun e w'' => e = .returned (.bool (wordsOk wd (-2) p)) ∧ ∃ q, w'' = w.drewN q) := by
    show ∀ n, _
    exact fun n => (l03Words_any _ vp p wd (-2) (hp.drewN n) sp).mono fun _ _ ⟨he, q, hq⟩ => ⟨he, n + q, by rw [hq, World.drewN_drewN]⟩
  have HM := Lib.hid hm
  have HP := Lib.hid hp
  have hpw : (2 : Int) ≤ 2 ^ d ∧ (2 : Int) ^ d ≤ 64 ∧ ((2 ^ d : Nat) : Int) = (2 : Int) ^ d := by
    have e1 : d = 1 ∨ d = 2 ∨ d = 3 ∨ d = 4 ∨ d = 5 ∨ d = 6 := by omega
    rcases e1 with rfl | rfl | rfl | rfl | rfl | rfl <;> decide
  obtain ⟨p1, p2, p3⟩ := hpw
  have lm := hm.len
  have lp := hp.len
  unfold maxLen at lm lp
  obtain ⟨A1, k1, e1⟩ := rds_sh hm
  obtain ⟨A2, k2, e2⟩ := rds_sh hp
  generalize hn1 : m.length = n1 at *
  generalize hn2 : p.length = n2 at *
  subst e1 e2
  clear hc hm hp hz w3 sm sp
  by_cases g1 : n1 = 2 ^ d
  rotate_left
  · have HE : Hid (bcOk d wd m p = false) := by show _ = _; rw [hB, decide_eq_false g1]; rfl
    have t1 : ((n1 : Int) != 2 ^ d) = true := bne_t (by omega)
    clear hB g1 p3
    go_enter Try.func108, Try.ntmps108
    go_wp2_with fail
    refine (l00In_yes _ _ _ _ d1 d2).mono ?_; rintro e w' ⟨rfl, rfl⟩
    go_wp2_with fail
    refine (l00In_yes _ _ _ _ w1 w2).mono ?_; rintro e w' ⟨rfl, rfl⟩
    go_wp2_with fail
    go_quiet (fail)
    go_wp2_with fail
    go_ret
    exact ⟨ret_bool HE.out.symm, _, rfl⟩
  rw [decide_eq_true g1, Bool.true_and] at hB
  have t1 : ((n1 : Int) != 2 ^ d) = false := bne_f (by omega)
  by_cases g2 : n2 = 2 ^ d
  rotate_left
  · have HE : Hid (bcOk d wd m p = false) := by show _ = _; rw [hB, decide_eq_false g2]; rfl
    have t2 : ((n2 : Int) != 2 ^ d) = true := bne_t (by omega)
    clear hB g1 g2 p3
    go_enter Try.func108, Try.ntmps108
    go_wp2_with fail
    refine (l00In_yes _ _ _ _ d1 d2).mono ?_; rintro e w' ⟨rfl, rfl⟩
    go_wp2_with fail
    refine (l00In_yes _ _ _ _ w1 w2).mono ?_; rintro e w' ⟨rfl, rfl⟩
    go_wp2_with fail
    go_quiet (fail)
    go_wp2_with fail
    go_ret
    exact ⟨ret_bool HE.out.symm, _, rfl⟩
  rw [decide_eq_true g2, Bool.true_and] at hB
  have t2 : ((n2 : Int) != 2 ^ d) = false := bne_f (by omega)
  cases hwm : wordsOk wd 2 m
  · have HE : Hid (bcOk d wd m p = false) := by show _ = _; rw [hB, hwm]; rfl
    rw [hwm] at WM
    clear hB g1 g2 p3 hwm
    go_enter Try.func108, Try.ntmps108
    go_wp2_with fail
    refine (l00In_yes _ _ _ _ d1 d2).mono ?_; rintro e w' ⟨rfl, rfl⟩
    go_wp2_with fail
    refine (l00In_yes _ _ _ _ w1 w2).mono ?_; rintro e w' ⟨rfl, rfl⟩
    go_wp2_with fail
    go_quiet ((go_at_call_of 133 (Value.slice A1 n1 k1); exact WM.out _))
    go_wp2_with fail
    go_ret
    exact ⟨ret_bool HE.out.symm, _, rfl⟩
  rw [hwm, Bool.true_and] at hB
  rw [hwm] at WM
  cases hwp : wordsOk wd (-2) p
  · have HE : Hid (bcOk d wd m p = false) := by show _ = _; rw [hB, hwp]; rfl
    rw [hwp] at WP
    clear hB g1 g2 p3 hwm hwp
    go_enter Try.func108, Try.ntmps108
    go_wp2_with fail
    refine (l00In_yes _ _ _ _ d1 d2).mono ?_; rintro e w' ⟨rfl, rfl⟩
    go_wp2_with fail
    refine (l00In_yes _ _ _ _ w1 w2).mono ?_; rintro e w' ⟨rfl, rfl⟩
    go_wp2_with fail
    go_quiet ((first | (go_at_call_of 133 (Value.slice A1 n1 k1); exact WM.out _) | (go_at_call_of 133 (Value.slice A2 n2 k2); exact WP.out _)))
    go_wp2_with fail
    go_ret
    exact ⟨ret_bool HE.out.symm, _, rfl⟩
  rw [hwp, Bool.true_and] at hB
  rw [hwp] at WP
  have HE := Lib.hid hB
  have HN1 := Lib.hid hn1
  have hg : (n1 : Int) = 2 ^ d := by omega
  have HG := Lib.hid hg
  have HI := Lib.hid (fun W x h => l03Index_any W (.slice A2 n2 k2) p x h)
  clear hB g1 g2 p3 hwm hwp hg hn1 hn2
  go_enter Try.func108, Try.ntmps108
  go_wp2_with fail
  refine (l00In_yes _ _ _ _ d1 d2).mono ?_; rintro e w' ⟨rfl, rfl⟩
  go_wp2_with fail
  refine (l00In_yes _ _ _ _ w1 w2).mono ?_; rintro e w' ⟨rfl, rfl⟩
  go_wp2_with fail
  go_quiet ((first | (go_at_call_of 133 (Value.slice A1 n1 k1); exact WM.out _) | (go_at_call_of 133 (Value.slice A2 n2 k2); exact WP.out _)))
  go_wp2_with fail
  rw [← HG.out]
  go_loopw [4] (fun i wr => ∃ k q : Nat, k ≤ n1 ∧ i = .int .i64 k ∧ wr = w.drewN q ∧ crossB p (m.drop k) k = bcOk d wd m p) (fun i _ => n1 - (intOf i).toNat)
  case atStart => exact ⟨0, _, Nat.zero_le _, rfl, rfl, HE.out.symm⟩
  case round =>
    obtain ⟨k, q, hk, rfl, rfl, hf⟩ := hrel
    by_cases hlt : k < n1
    · have hkl : k < m.length := by have := HN1.out; omega
      obtain ⟨A, n, c, e, hn, -, -, r⟩ := HM.out
      injection e with e1 e2 e3
      subst e1 e2 e3
      obtain ⟨b', o', rfl, hlt0, hcc⟩ := r (by omega)
      have hc0 := hcc k hkl
      rw [crossB_drop p m k hkl] at hf
      have hk0 : (0 : Int) ≤ (k : Int) := by omega
      have hk1 : (k : Int) < (n1 : Int) := by omega
      have HF := Lib.hid hf
      clear hcc hf r hn
      generalize m[k] = x at *
      have CI := Lib.hid (fun W h => HI.out W x h)
      have hlo := (fnd_lt p x).1
      generalize fnd p x 0 = G at *
      by_cases g0 : 0 ≤ G
      · have s1 : decide (0 ≤ G) = true := decide_eq_true g0
        by_cases g1 : G = (k : Int)
        · have HC : Hid (crossB p (m.drop (k + 1)) (k + 1) = bcOk d wd m p) := by show _ = _; have := HF.out; rw [decide_eq_true g1, Bool.or_true, Bool.true_and] at this; exact this
          have s2 : (G != (k : Int)) = false := bne_f g1
          have G1 := Lib.hid g1
          clear g1 HF
          go_wp2_with fail
          go_quiet ((go_at_call 111; exact quiet_leftq (CI.out _ (HP.out.drewN _))))
          go_wp2_with fail
          go_roundw
          case rel => exact ⟨k + 1, _, by omega, by go_num, rfl, HC.out⟩
          case measure => simp [intOf]; omega
        · have HC : Hid (bcOk d wd m p = false) := by show _ = _; have := HF.out; rw [decide_eq_false g1, decide_eq_false (show ¬ G = -1 by omega)] at this; exact this.symm
          have s2 : (G != (k : Int)) = true := bne_t g1
          clear g1 HF
          go_wp2_with fail
          go_quiet ((go_at_call 111; exact quiet_leftq (CI.out _ (HP.out.drewN _))))
          go_wp2_with fail
          go_ret
          exact ⟨ret_bool HC.out.symm, _, rfl⟩
      · have s1 : decide (0 ≤ G) = false := decide_eq_false g0
        have HC : Hid (crossB p (m.drop (k + 1)) (k + 1) = bcOk d wd m p) := by show _ = _; have := HF.out; rw [decide_eq_true (show G = -1 by omega), Bool.true_or, Bool.true_and] at this; exact this
        clear HF
        go_wp2_with fail
        go_quiet ((go_at_call 111; exact quiet_leftq (CI.out _ (HP.out.drewN _))))
        go_wp2_with fail
        go_roundw
        case rel => exact ⟨k + 1, _, by omega, by go_num, rfl, HC.out⟩
        case measure => simp [intOf]; omega
    · obtain rfl : k = n1 := by omega
      have HX : Hid (bcOk d wd m p = true) := by show _ = _; rw [List.drop_of_length_le (by have := HN1.out; omega), crossB] at hf; exact hf.symm
      clear hf
      go_wp2_with fail
      go_ret
      exact ⟨ret_bool HX.out.symm, _, rfl⟩

end Go.Proofs.Ytjmaapbodacggaa
