/- Contracts: bounds, lists of numbers within bounds, needs: the program's and the model's. -/
import Derived.Test.YtmhdjimdhcephabNdP
import Derived.Test.YtmhdjimdhcephabMm
namespace Go.Proofs.Ytmhdjimdhcephab
open Go Go.RowKit
set_option linter.unusedVariables false

theorem rg_in (n lo hi : Int) (w : World) : Calls Try.prog 97 #[.int .i64 n, .int .i64 lo, .int .i64 hi] w fun e w' => e = .returned (.bool (rgB lo hi n)) ∧ w = w' := by
  by_cases h : lo ≤ n ∧ n ≤ hi
  · have e : rgB lo hi n = true := decide_eq_true h
    rw [e]; exact l00In_yes n lo hi w h.1 h.2
  · have e : rgB lo hi n = false := decide_eq_false h
    rw [e]; exact l00In_no n lo hi w h
theorem rg_is (n lo hi : Int) (w : World) : Calls Try.prog 99 #[.int .i64 n, .int .i64 lo, .int .i64 hi] w fun e w' => e = .returned (.bool (rgB lo hi n)) ∧ w = w' := by
  by_cases h : lo ≤ n ∧ n ≤ hi
  · have e : rgB lo hi n = true := decide_eq_true h
    rw [e]; exact btw_yes n lo hi w h.1 h.2
  · have e : rgB lo hi n = false := decide_eq_false h
    rw [e]; exact btw_no n lo hi w h
theorem rg_int (n lo hi : Int) (w : World) : Calls Try.prog 144 #[.int .i64 n, .int .i64 lo, .int .i64 hi] w fun e w' => e = .returned (.bool (rgB lo hi n)) ∧ w = w' := by
  by_cases h : lo ≤ n ∧ n ≤ hi
  · have e : rgB lo hi n = true := decide_eq_true h
    rw [e]; exact bI_yes n lo hi w h.1 h.2
  · have e : rgB lo hi n = false := decide_eq_false h
    rw [e]; exact bI_no n lo hi w h
theorem rd_max {l : List Int} (h0 : 0 < l.length) : ∃ M, IsMax l M := by
  have key : ∀ k : Nat, 1 ≤ k → k ≤ l.length → ∃ M, IsMax (l.take k) M := by
    intro k h1
    induction k with
    | zero => omega
    | succ k ih =>
      intro hk
      by_cases hz : k = 0
      · subst hz
        exact ⟨_, isMax_one l (by omega)⟩
      · obtain ⟨M, hM⟩ := ih (by omega) (by omega)
        have := isMax_snoc (x := l[k]'(by omega)) hM
        rw [← List.take_succ_eq_append_getElem (by omega)] at this
        exact ⟨_, this⟩
  obtain ⟨M, hM⟩ := key l.length h0 (Nat.le_refl _)
  rw [List.take_length] at hM
  exact ⟨M, hM⟩
theorem areNumbersTo_any (w : World) (v : Value) (l : List Int) (c : Nat) (most : Int) (h : Rd w v l) (hc : c ≤ 1000) :
    Calls Try.prog 105 #[v, .int .i64 (c : Int), .int .i64 most] w fun e w' => e = .returned (.bool (anB c most l)) ∧ w = w' := by
  have hlen := h.len
  unfold maxLen at hlen
  have HH := Lib.hid h
  obtain ⟨A, cp, rfl⟩ := rd_sh h
  clear h
  by_cases h1 : 1 ≤ l.length ∧ l.length ≤ c
  · have HC := Lib.hid (fun W h => min_any W (.slice A l.length cp) l h (by omega))
    have HD := Lib.hid (fun W h => max_any W (.slice A l.length cp) l h (by omega))
    have HE := Lib.hid (fun m M hm hl hM hL => anB_min (c := c) (most := most) (m := m) (M := M) h1 hm hl hM hL)
    have h2 : (1 : Int) ≤ (l.length : Int) ∧ (l.length : Int) ≤ (c : Int) := by omega
    have HMX := Lib.hid (rd_max (l := l) (by omega))
    have H2 := Lib.hid h2
    clear h1 h2
    generalize anB c most l = R at *
    generalize l.length = n at *
    go_enter Try.func105, Try.ntmps105
    go_wp2_with fail
    refine (bI_yes _ _ _ _ H2.out.1 H2.out.2).mono ?_; rintro e w' ⟨rfl, rfl⟩
    go_wp2_with fail
    refine (HC.out _ HH.out).mono ?_; rintro e w' ⟨m, rfl, hm, rfl⟩
    have HM := Lib.hid hm
    clear hm
    by_cases g1 : 0 ≤ m
    · go_wp2_with fail
      refine (HD.out _ HH.out).mono ?_; rintro e w' ⟨M, rfl, hM, rfl⟩
      have HX := Lib.hid (HE.out m M HM.out.1 HM.out.2 hM.1 hM.2)
      have HG := Lib.hid g1
      clear hM
      go_wp2_with fail
      go_ret
      exact ⟨ret_bool (by rw [HX.out, decide_eq_true HG.out]; rfl), rfl⟩
    · have HX : Hid (R = false) := by
        show _ = _
        obtain ⟨M, hM⟩ := HMX.out
        rw [HE.out m M HM.out.1 HM.out.2 hM.1 hM.2, decide_eq_false g1]; rfl
      clear HE HD HMX
      go_wp2_with fail
      go_ret
      exact ⟨ret_bool HX.out.symm, rfl⟩
  · have HE := Lib.hid (anB_len (most := most) h1)
    have H2 : Hid (¬ ((1 : Int) ≤ (l.length : Int) ∧ (l.length : Int) ≤ (c : Int))) := by show ¬ _; omega
    clear h1
    generalize anB c most l = R at *
    generalize l.length = n at *
    go_enter Try.func105, Try.ntmps105
    go_wp2_with fail
    refine (bI_no _ _ _ _ H2.out).mono ?_; rintro e w' ⟨rfl, rfl⟩
    go_wp2_with fail
    go_ret
    exact ⟨ret_bool HE.out.symm, rfl⟩
theorem l09Many_any (n : Int) (w : World) :
    Calls Try.prog 60 #[.int .i64 n] w fun e w' => e = .returned (.bool (rgB 1 12 n)) ∧ w = w' := by
  have HC := Lib.hid (rg_in n 1 12 w)
  generalize rgB 1 12 n = R at *
  go_enter Try.func60, Try.ntmps60
  go_wp2_with fail
  refine HC.out.mono ?_; rintro e w' ⟨rfl, rfl⟩
  go_wp2_with fail
  go_ret
  exact ⟨rfl, rfl⟩
theorem l09Window_any (n : Int) (w : World) :
    Calls Try.prog 83 #[.int .i64 n] w fun e w' => e = .returned (.bool (rgB 1 20 n)) ∧ w = w' := by
  have HC := Lib.hid (rg_in n 1 20 w)
  generalize rgB 1 20 n = R at *
  go_enter Try.func83, Try.ntmps83
  go_wp2_with fail
  refine HC.out.mono ?_; rintro e w' ⟨rfl, rfl⟩
  go_wp2_with fail
  go_ret
  exact ⟨rfl, rfl⟩
theorem isWindow_any (n : Int) (w : World) :
    Calls Try.prog 90 #[.int .i64 n] w fun e w' => e = .returned (.bool (rgB 1 20 n)) ∧ w = w' := by
  have HC := Lib.hid (rg_is n 1 20 w)
  generalize rgB 1 20 n = R at *
  go_enter Try.func90, Try.ntmps90
  go_wp2_with fail
  refine HC.out.mono ?_; rintro e w' ⟨rfl, rfl⟩
  go_wp2_with fail
  go_ret
  exact ⟨rfl, rfl⟩
theorem areStations_any (n : Int) (w : World) :
    Calls Try.prog 89 #[.int .i64 n] w fun e w' => e = .returned (.bool (rgB 1 12 n)) ∧ w = w' := by
  have HC := Lib.hid (rg_is n 1 12 w)
  generalize rgB 1 12 n = R at *
  go_enter Try.func89, Try.ntmps89
  go_wp2_with fail
  refine HC.out.mono ?_; rintro e w' ⟨rfl, rfl⟩
  go_wp2_with fail
  go_ret
  exact ⟨rfl, rfl⟩
theorem areStationsI_any (n : Int) (w : World) :
    Calls Try.prog 104 #[.int .i64 n] w fun e w' => e = .returned (.bool (rgB 1 12 n)) ∧ w = w' := by
  have HC := Lib.hid (rg_int n 1 12 w)
  generalize rgB 1 12 n = R at *
  go_enter Try.func104, Try.ntmps104
  go_wp2_with fail
  refine HC.out.mono ?_; rintro e w' ⟨rfl, rfl⟩
  go_wp2_with fail
  go_ret
  exact ⟨rfl, rfl⟩

end Go.Proofs.Ytmhdjimdhcephab
