/- Contracts: bounds, lists of numbers within bounds, needs: the program's and the model's. -/
import Derived.Test.YtjhgkkecconcaabNdP
import Derived.Test.YtjhgkkecconcaabMm
namespace Go.Proofs.Ytjhgkkecconcaab
open Go Go.RowKit
set_option linter.unusedVariables false

theorem rg_in (n lo hi : Int) (w : World) : Calls Try.prog 64 #[.int .i64 n, .int .i64 lo, .int .i64 hi] w fun e w' => e = .returned (.bool (rgB lo hi n)) ∧ w = w' := by
  by_cases h : lo ≤ n ∧ n ≤ hi
  · have e : rgB lo hi n = true := decide_eq_true h
    rw [e]; exact l00In_yes n lo hi w h.1 h.2
  · have e : rgB lo hi n = false := decide_eq_false h
    rw [e]; exact l00In_no n lo hi w h
theorem rg_is (n lo hi : Int) (w : World) : Calls Try.prog 66 #[.int .i64 n, .int .i64 lo, .int .i64 hi] w fun e w' => e = .returned (.bool (rgB lo hi n)) ∧ w = w' := by
  by_cases h : lo ≤ n ∧ n ≤ hi
  · have e : rgB lo hi n = true := decide_eq_true h
    rw [e]; exact btw_yes n lo hi w h.1 h.2
  · have e : rgB lo hi n = false := decide_eq_false h
    rw [e]; exact btw_no n lo hi w h
theorem rg_int (n lo hi : Int) (w : World) : Calls Try.prog 120 #[.int .i64 n, .int .i64 lo, .int .i64 hi] w fun e w' => e = .returned (.bool (rgB lo hi n)) ∧ w = w' := by
  by_cases h : lo ≤ n ∧ n ≤ hi
  · have e : rgB lo hi n = true := decide_eq_true h
    rw [e]; exact bI_yes n lo hi w h.1 h.2
  · have e : rgB lo hi n = false := decide_eq_false h
    rw [e]; exact bI_no n lo hi w h
theorem rd_max {l : List Int} (h0 : 0 < l.length) : ∃ M, IsMax l M := by
  have key : ∀ k : Nat, 1 ≤ k → k ≤ l.length → ∃ M, IsMax (l.take k) M := by
    intro k h1
    induction k with
    | zero => omega
    | succ k ih =>
      intro hk
      by_cases hz : k = 0
      · subst hz
        exact ⟨_, isMax_one l (by omega)⟩
      · obtain ⟨M, hM⟩ := ih (by omega) (by omega)
        have := isMax_snoc (x := l[k]'(by omega)) hM
        rw [← List.take_succ_eq_append_getElem (by omega)] at this
        exact ⟨_, this⟩
  obtain ⟨M, hM⟩ := key l.length h0 (Nat.le_refl _)
  rw [List.take_length] at hM
  exact ⟨M, hM⟩
theorem areNumbersTo_any (w : World) (v : Value) (l : List Int) (c : Nat) (most : Int) (h : Rd w v l) (hc : c ≤ 1000) :
    Calls Try.prog 79 #[v, .int .i64 (c : Int), .int .i64 most] w fun e w' => e = .returned (.bool (anB c most l)) ∧ w = w' := by
  have hlen := h.len
  unfold maxLen at hlen
  have HH := Lib.hid h
  obtain ⟨A, cp, rfl⟩ := rd_sh h
  clear h
  by_cases h1 : 1 ≤ l.length ∧ l.length ≤ c
  · have HC := Lib.hid (fun W h => min_any W (.slice A l.length cp) l h (by omega))
    have HD := Lib.hid (fun W h => max_any W (.slice A l.length cp) l h (by omega))
    have HE := Lib.hid (fun m M hm hl hM hL => anB_min (c := c) (most := most) (m := m) (M := M) h1 hm hl hM hL)
    have h2 : (1 : Int) ≤ (l.length : Int) ∧ (l.length : Int) ≤ (c : Int) := by omega
    have HMX := Lib.hid (rd_max (l := l) (by omega))
    have H2 := Lib.hid h2
    clear h1 h2
    generalize anB c most l = R at *
    generalize l.length = n at *
    go_enter Try.func79, Try.ntmps79
    go_wp2_with fail
    refine (bI_yes _ _ _ _ H2.out.1 H2.out.2).mono ?_; rintro e w' ⟨rfl, rfl⟩
    go_wp2_with fail
    refine (HC.out _ HH.out).mono ?_; rintro e w' ⟨m, rfl, hm, rfl⟩
    have HM := Lib.hid hm
    clear hm
    by_cases g1 : 0 ≤ m
    · go_wp2_with fail
      refine (HD.out _ HH.out).mono ?_; rintro e w' ⟨M, rfl, hM, rfl⟩
      have HX := Lib.hid (HE.out m M HM.out.1 HM.out.2 hM.1 hM.2)
      have HG := Lib.hid g1
      clear hM
      go_wp2_with fail
      go_ret
      exact ⟨ret_bool (by rw [HX.out, decide_eq_true HG.out]; rfl), rfl⟩
    · have HX : Hid (R = false) := by
        show _ = _
        obtain ⟨M, hM⟩ := HMX.out
        rw [HE.out m M HM.out.1 HM.out.2 hM.1 hM.2, decide_eq_false g1]; rfl
      clear HE HD HMX
      go_wp2_with fail
      go_ret
      exact ⟨ret_bool HX.out.symm, rfl⟩
  · have HE := Lib.hid (anB_len (most := most) h1)
    have H2 : Hid (¬ ((1 : Int) ≤ (l.length : Int) ∧ (l.length : Int) ≤ (c : Int))) := by show ¬ _; omega
    clear h1
    generalize anB c most l = R at *
    generalize l.length = n at *
    go_enter Try.func79, Try.ntmps79
    go_wp2_with fail
    refine (bI_no _ _ _ _ H2.out).mono ?_; rintro e w' ⟨rfl, rfl⟩
    go_wp2_with fail
    go_ret
    exact ⟨ret_bool HE.out.symm, rfl⟩
theorem areNeeds_any (w : World) (v : Value) (l : List Int) (h : Rd w v l) :
    Calls Try.prog 65 #[v] w fun e w' => e = .returned (.bool (ndB l)) ∧ w = w' := by
  have HC : Hid (Calls Try.prog 79 #[v, .int .i64 12, .int .i64 1000] w fun e w' => e = .returned (.bool (ndB l)) ∧ w = w') := areNumbersTo_any w v l 12 1000 h (by decide)
  clear h
  generalize ndB l = R at *
  go_enter Try.func65, Try.ntmps65
  go_wp2_with fail
  refine HC.out.mono ?_; rintro e w' ⟨rfl, rfl⟩
  go_wp2_with fail
  go_ret
  exact ⟨rfl, rfl⟩
theorem l09Many_any (n : Int) (w : World) :
    Calls Try.prog 118 #[.int .i64 n] w fun e w' => e = .returned (.bool (rgB 1 12 n)) ∧ w = w' := by
  have HC := Lib.hid (rg_in n 1 12 w)
  generalize rgB 1 12 n = R at *
  go_enter Try.func118, Try.ntmps118
  go_wp2_with fail
  refine HC.out.mono ?_; rintro e w' ⟨rfl, rfl⟩
  go_wp2_with fail
  go_ret
  exact ⟨rfl, rfl⟩
theorem l09Window_any (n : Int) (w : World) :
    Calls Try.prog 71 #[.int .i64 n] w fun e w' => e = .returned (.bool (rgB 1 20 n)) ∧ w = w' := by
  have HC := Lib.hid (rg_in n 1 20 w)
  generalize rgB 1 20 n = R at *
  go_enter Try.func71, Try.ntmps71
  go_wp2_with fail
  refine HC.out.mono ?_; rintro e w' ⟨rfl, rfl⟩
  go_wp2_with fail
  go_ret
  exact ⟨rfl, rfl⟩
theorem isWindow_any (n : Int) (w : World) :
    Calls Try.prog 72 #[.int .i64 n] w fun e w' => e = .returned (.bool (rgB 1 20 n)) ∧ w = w' := by
  have HC := Lib.hid (rg_is n 1 20 w)
  generalize rgB 1 20 n = R at *
  go_enter Try.func72, Try.ntmps72
  go_wp2_with fail
  refine HC.out.mono ?_; rintro e w' ⟨rfl, rfl⟩
  go_wp2_with fail
  go_ret
  exact ⟨rfl, rfl⟩
theorem areStationsI_any (n : Int) (w : World) :
    Calls Try.prog 78 #[.int .i64 n] w fun e w' => e = .returned (.bool (rgB 1 12 n)) ∧ w = w' := by
  have HC := Lib.hid (rg_int n 1 12 w)
  generalize rgB 1 12 n = R at *
  go_enter Try.func78, Try.ntmps78
  go_wp2_with fail
  refine HC.out.mono ?_; rintro e w' ⟨rfl, rfl⟩
  go_wp2_with fail
  go_ret
  exact ⟨rfl, rfl⟩

set_option maxRecDepth 100000 in
theorem l09Needs_any (w : World) (v : Value) (l : List Int) (h : Rd w v l) :
    Calls Try.prog 63 #[v] w fun e w' => e = .returned (.bool (ndB l)) ∧ w = w' := by
  have hlen := h.len
  unfold maxLen at hlen
  obtain ⟨A, n, c, rfl, hn, -, -, r⟩ := h
  rw [hn] at hlen
  have HN := Lib.hid hn
  have HR := Lib.hid r
  clear hn r
  go_enter Try.func63, Try.ntmps63
  go_wp2_with fail
  go_loop [3] (fun i => ∃ k : Nat, k ≤ n ∧ i = .int .i64 k ∧ ∀ x ∈ l.take k, 0 ≤ x ∧ x ≤ 1000) (fun i => n - (intOf i).toNat)
  case atStart => exact ⟨0, Nat.zero_le _, rfl, by simp⟩
  case round =>
    obtain ⟨k, hk, rfl, hf⟩ := hrel
    by_cases hlt : k < n
    · obtain ⟨b, o, rfl, hlt0, hc⟩ := HR.out (by omega)
      have hkl : k < l.length := by have := HN.out; omega
      have hc0 := hc k hkl
      have hk0 : (0 : Int) ≤ (k : Int) := by omega
      have hk1 : (k : Int) < (n : Int) := by omega
      have HB := Lib.hid (fun h => anB_bad (c := 12) (most := 1000) (List.getElem_mem hkl) h)
      have HF : Hid (0 ≤ l[k] ∧ l[k] ≤ 1000 → ∀ x ∈ l.take (k + 1), 0 ≤ x ∧ x ≤ 1000) := by
        show _ → _
        intro hx x hm
        rw [List.take_succ_eq_append_getElem hkl] at hm
        rcases List.mem_append.1 hm with h | h
        · exact hf x h
        · simp at h; rw [h]; exact hx
      clear hc hf
      generalize l[k] = x at *
      by_cases g : 0 ≤ x ∧ x ≤ 1000
      · have HX := Lib.hid (HF.out g)
        have HG := Lib.hid g
        clear g HB HF
        go_wp2_with fail
        refine (l00In_yes _ _ _ _ HG.out.1 HG.out.2).mono ?_; rintro e w' ⟨rfl, rfl⟩
        go_wp2_with fail
        go_round
        case rel => exact ⟨k + 1, by omega, by go_num, HX.out⟩
        case measure => simp [intOf]; omega
      · have HX : Hid (ndB l = false) := HB.out g
        have HG := Lib.hid g
        clear g HB HF
        go_wp2_with fail
        refine (l00In_no _ _ _ _ HG.out).mono ?_; rintro e w' ⟨rfl, rfl⟩
        go_wp2_with fail
        go_ret
        exact ⟨ret_bool HX.out.symm, rfl⟩
    · obtain rfl : k = n := by omega
      have HX : Hid (ndB l = rgB 1 12 (k : Int)) := by
        show _ = _
        rw [List.take_of_length_le (by have := HN.out; omega)] at hf
        unfold ndB rgB
        by_cases g : 1 ≤ k ∧ k ≤ 12
        · rw [anB_mk (by have := HN.out; omega) (by have := HN.out; omega) hf, decide_eq_true (by omega)]
        · rw [anB_len (by have := HN.out; omega), decide_eq_false (by omega)]
      clear hf
      go_wp2_with fail
      refine (l09Many_any _ _).mono ?_; rintro e w' ⟨rfl, rfl⟩
      go_wp2_with fail
      go_ret
      exact ⟨ret_bool HX.out.symm, rfl⟩
end Go.Proofs.Ytjhgkkecconcaab
