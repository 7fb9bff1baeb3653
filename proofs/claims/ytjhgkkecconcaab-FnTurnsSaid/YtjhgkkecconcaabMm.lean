/- slices.Min and slices.Max over numbers that are read: the least and the greatest one; areNumbers, areWeights; the model's l05Weights. -/
import Derived.Test.YtjhgkkecconcaabMlP
import Derived.Test.YtjhgkkecconcaabRd
import Derived.Test.YtjhgkkecconcaabBtw
import Derived.Test.YtjhgkkecconcaabBtI
namespace Go.Proofs.Ytjhgkkecconcaab
open Go Go.RowKit
set_option linter.unusedVariables false

def IsMin (l : List Int) (m : Int) : Prop := m ∈ l ∧ ∀ x ∈ l, m ≤ x
def IsMax (l : List Int) (m : Int) : Prop := m ∈ l ∧ ∀ x ∈ l, x ≤ m
theorem isMin_snoc {l : List Int} {m x : Int} (h : IsMin l m) : IsMin (l ++ [x]) (if x < m then x else m) := by
  by_cases e : x < m
  · rw [if_pos e]
    refine ⟨by simp, fun y hy => ?_⟩
    rcases List.mem_append.1 hy with h' | h'
    · have := h.2 y h'; omega
    · simp at h'; omega
  · rw [if_neg e]
    refine ⟨by simp [h.1], fun y hy => ?_⟩
    rcases List.mem_append.1 hy with h' | h'
    · exact h.2 y h'
    · simp at h'; omega
theorem isMax_snoc {l : List Int} {m x : Int} (h : IsMax l m) : IsMax (l ++ [x]) (if m < x then x else m) := by
  by_cases e : m < x
  · rw [if_pos e]
    refine ⟨by simp, fun y hy => ?_⟩
    rcases List.mem_append.1 hy with h' | h'
    · have := h.2 y h'; omega
    · simp at h'; omega
  · rw [if_neg e]
    refine ⟨by simp [h.1], fun y hy => ?_⟩
    rcases List.mem_append.1 hy with h' | h'
    · exact h.2 y h'
    · simp at h'; omega
theorem isMin_one (l : List Int) (h : 0 < l.length) : IsMin (l.take 1) l[0] := by
  cases l with
  | nil => simp at h
  | cons a t => exact ⟨by simp, by simp⟩
theorem isMax_one (l : List Int) (h : 0 < l.length) : IsMax (l.take 1) l[0] := by
  cases l with
  | nil => simp at h
  | cons a t => exact ⟨by simp, by simp⟩

set_option maxRecDepth 100000 in
theorem min_any (w : World) (v : Value) (l : List Int) (h : Rd w v l) (h0 : 0 < l.length) :
    Calls Try.prog 121 #[v] w fun e w' => ∃ m : Int, e = .returned (.int .i64 m) ∧ IsMin l m ∧ w = w' := by
  have hlen := h.len
  unfold maxLen at hlen
  have h1 := isMin_one l h0
  obtain ⟨A, n, c, rfl, hn, -, -, r⟩ := h
  rw [hn] at hlen h0
  obtain ⟨b, o, rfl, hlt0, hc⟩ := r h0
  have c0 := hc 0 (by omega)
  rw [Nat.add_zero] at c0
  have HN := Lib.hid hn
  have HC := Lib.hid hc
  clear hn hc r
  have HI := Lib.hid h1
  clear h1
  generalize l[0]'(by have := HN.out; omega) = m0 at *
  go_enter Try.func121, Try.ntmps121
  go_wp2_with fail
  go_loop [3, 4] (fun mm i => ∃ (k : Nat) (m : Int), 1 ≤ k ∧ k ≤ n ∧ i = .int .i64 k ∧ mm = .int .i64 m ∧ IsMin (l.take k) m) (fun _ i => n - (intOf i).toNat)
  case atStart => exact ⟨1, m0, Nat.le_refl _, h0, rfl, rfl, HI.out⟩
  case round =>
    obtain ⟨k, m, k1, hk, rfl, rfl, hm⟩ := hrel
    clear c0 HI
    by_cases hlt : k < n
    · have hkl : k < l.length := by have := HN.out; omega
      have hc0 := HC.out k hkl
      have hs := isMin_snoc (x := l[k]) hm
      rw [← List.take_succ_eq_append_getElem hkl] at hs
      have HS := Lib.hid hs
      have hk0 : (0 : Int) ≤ (k : Int) := by omega
      have hk1 : (k : Int) < (n : Int) := by omega
      clear hs hm
      generalize l[k] = x at *
      by_cases e : x < m
      · have HX : Hid (IsMin (l.take (k + 1)) x) := by show IsMin _ _; have := HS.out; rwa [if_pos e] at this
        clear HS
        go_wp2_with fail
        go_round
        case rel => exact ⟨k + 1, x, by omega, by omega, by go_num, rfl, HX.out⟩
        case measure => simp [intOf]; omega
      · have HX : Hid (IsMin (l.take (k + 1)) m) := by show IsMin _ _; have := HS.out; rwa [if_neg e] at this
        clear HS
        go_wp2_with fail
        go_round
        case rel => exact ⟨k + 1, m, by omega, by omega, by go_num, rfl, HX.out⟩
        case measure => simp [intOf]; omega
    · obtain rfl : k = n := by omega
      have HX : Hid (IsMin l m) := by show IsMin _ _; rwa [List.take_of_length_le (by have := HN.out; omega)] at hm
      clear hm
      go_wp2_with fail
      go_ret
      exact ⟨m, rfl, HX.out, rfl⟩

set_option maxRecDepth 100000 in
theorem max_any (w : World) (v : Value) (l : List Int) (h : Rd w v l) (h0 : 0 < l.length) :
    Calls Try.prog 70 #[v] w fun e w' => ∃ m : Int, e = .returned (.int .i64 m) ∧ IsMax l m ∧ w = w' := by
  have hlen := h.len
  unfold maxLen at hlen
  have h1 := isMax_one l h0
  obtain ⟨A, n, c, rfl, hn, -, -, r⟩ := h
  rw [hn] at hlen h0
  obtain ⟨b, o, rfl, hlt0, hc⟩ := r h0
  have c0 := hc 0 (by omega)
  rw [Nat.add_zero] at c0
  have HN := Lib.hid hn
  have HC := Lib.hid hc
  clear hn hc r
  have HI := Lib.hid h1
  clear h1
  generalize l[0]'(by have := HN.out; omega) = m0 at *
  go_enter Try.func70, Try.ntmps70
  go_wp2_with fail
  go_loop [3, 4] (fun mm i => ∃ (k : Nat) (m : Int), 1 ≤ k ∧ k ≤ n ∧ i = .int .i64 k ∧ mm = .int .i64 m ∧ IsMax (l.take k) m) (fun _ i => n - (intOf i).toNat)
  case atStart => exact ⟨1, m0, Nat.le_refl _, h0, rfl, rfl, HI.out⟩
  case round =>
    obtain ⟨k, m, k1, hk, rfl, rfl, hm⟩ := hrel
    clear c0 HI
    by_cases hlt : k < n
    · have hkl : k < l.length := by have := HN.out; omega
      have hc0 := HC.out k hkl
      have hs := isMax_snoc (x := l[k]) hm
      rw [← List.take_succ_eq_append_getElem hkl] at hs
      have HS := Lib.hid hs
      have hk0 : (0 : Int) ≤ (k : Int) := by omega
      have hk1 : (k : Int) < (n : Int) := by omega
      clear hs hm
      generalize l[k] = x at *
      by_cases e : m < x
      · have HX : Hid (IsMax (l.take (k + 1)) x) := by show IsMax _ _; have := HS.out; rwa [if_pos e] at this
        clear HS
        go_wp2_with fail
        go_round
        case rel => exact ⟨k + 1, x, by omega, by omega, by go_num, rfl, HX.out⟩
        case measure => simp [intOf]; omega
      · have HX : Hid (IsMax (l.take (k + 1)) m) := by show IsMax _ _; have := HS.out; rwa [if_neg e] at this
        clear HS
        go_wp2_with fail
        go_round
        case rel => exact ⟨k + 1, m, by omega, by omega, by go_num, rfl, HX.out⟩
        case measure => simp [intOf]; omega
    · obtain rfl : k = n := by omega
      have HX : Hid (IsMax l m) := by show IsMax _ _; rwa [List.take_of_length_le (by have := HN.out; omega)] at hm
      clear hm
      go_wp2_with fail
      go_ret
      exact ⟨m, rfl, HX.out, rfl⟩

theorem rd_sh {w : World} {v : Value} {l : List Int} (h : Rd w v l) : ∃ A c, v = .slice A l.length c := by
  obtain ⟨A, n, c, e, hn, -⟩ := h
  exact ⟨A, c, by rw [e, hn]⟩

theorem areNumbers_any (w : World) (v : Value) (l : List Int) (most : Int) (h : Rd w v l) :
    Calls Try.prog 106 #[v, .int .i64 most] w fun e w' => e = .returned (.bool (wgOk most l)) ∧ w = w' := by
  have hlen := h.len
  unfold maxLen at hlen
  have HH := Lib.hid h
  obtain ⟨A, c, rfl⟩ := rd_sh h
  clear h
  by_cases h1 : 2 ≤ l.length ∧ l.length ≤ 16
  · have HC := Lib.hid (fun W h => min_any W (.slice A l.length c) l h (by omega))
    have HD := Lib.hid (fun W h => max_any W (.slice A l.length c) l h (by omega))
    have HE := Lib.hid (fun m M hm hl hM hL => wgOk_min (most := most) (m := m) (M := M) h1 hm hl hM hL)
    have h2 : (2 : Int) ≤ (l.length : Int) ∧ (l.length : Int) ≤ 16 := by omega
    have H2 := Lib.hid h2
    clear h1 h2
    generalize wgOk most l = R at *
    generalize l.length = n at *
    go_enter Try.func106, Try.ntmps106
    go_wp2_with fail
    refine (bI_yes _ _ _ _ H2.out.1 H2.out.2).mono ?_; rintro e w' ⟨rfl, rfl⟩
    go_wp2_with fail
    refine (HC.out _ HH.out).mono ?_; rintro e w' ⟨m, rfl, hm, rfl⟩
    have HM := Lib.hid hm
    clear hm
    by_cases g1 : 1 ≤ m
    · go_wp2_with fail
      refine (HD.out _ HH.out).mono ?_; rintro e w' ⟨M, rfl, hM, rfl⟩
      have HX := Lib.hid (HE.out m M HM.out.1 HM.out.2 hM.1 hM.2)
      have HG := Lib.hid g1
      clear hM
      go_wp2_with fail
      go_ret
      exact ⟨ret_bool (by rw [HX.out, decide_eq_true HG.out]; rfl), rfl⟩
    · have HX : Hid (R = false) := by
        show _ = _
        have hM : ∃ M, IsMax l M := by
          refine Classical.byContradiction fun hno => ?_
          clear HC HE
          have key : ∀ k : Nat, 1 ≤ k → k ≤ l.length → ∃ M, IsMax (l.take k) M := by
            intro k h1
            induction k with
            | zero => omega
            | succ k ih =>
              intro hk
              by_cases hz : k = 0
              · subst hz
                exact ⟨_, isMax_one l (by omega)⟩
              · obtain ⟨M, hM⟩ := ih (by omega) (by omega)
                have := isMax_snoc (x := l[k]'(by omega)) hM
                rw [← List.take_succ_eq_append_getElem (by omega)] at this
                exact ⟨_, this⟩
          have hl : 1 ≤ l.length := by
            cases l with
            | nil => exact absurd HM.out.1 (by simp)
            | cons a t => simp
          obtain ⟨M, hM⟩ := key l.length hl (Nat.le_refl _)
          rw [List.take_length] at hM
          exact hno ⟨M, hM⟩
        obtain ⟨M, hM⟩ := hM
        rw [HE.out m M HM.out.1 HM.out.2 hM.1 hM.2, decide_eq_false g1]; rfl
      clear HE HD
      go_wp2_with fail
      go_ret
      exact ⟨ret_bool HX.out.symm, rfl⟩
  · have HE := Lib.hid (wgOk_len (most := most) h1)
    have H2 : Hid (¬ ((2 : Int) ≤ (l.length : Int) ∧ (l.length : Int) ≤ 16)) := by show ¬ _; omega
    clear h1
    generalize wgOk most l = R at *
    generalize l.length = n at *
    go_enter Try.func106, Try.ntmps106
    go_wp2_with fail
    refine (bI_no _ _ _ _ H2.out).mono ?_; rintro e w' ⟨rfl, rfl⟩
    go_wp2_with fail
    go_ret
    exact ⟨ret_bool HE.out.symm, rfl⟩
theorem areWeights_any (w : World) (v : Value) (l : List Int) (h : Rd w v l) :
    Calls Try.prog 113 #[v] w fun e w' => e = .returned (.bool (wgOk 62500000000000 l)) ∧ w = w' := by
  have HC := Lib.hid (areNumbers_any w v l 62500000000000 h)
  clear h
  generalize wgOk 62500000000000 l = R at *
  go_enter Try.func113, Try.ntmps113
  go_wp2_with fail
  refine HC.out.mono ?_; rintro e w' ⟨rfl, rfl⟩
  go_wp2_with fail
  go_ret
  exact ⟨rfl, rfl⟩

set_option maxRecDepth 100000 in
theorem l05Weights_any (w : World) (v : Value) (l : List Int) (h : Rd w v l) :
    Calls Try.prog 111 #[v] w fun e w' => e = .returned (.bool (wgOk 62500000000000 l)) ∧ w = w' := by
  have hlen := h.len
  unfold maxLen at hlen
  obtain ⟨A, n, c, rfl, hn, -, -, r⟩ := h
  rw [hn] at hlen
  have HN := Lib.hid hn
  have HR := Lib.hid r
  clear hn r
  go_enter Try.func111, Try.ntmps111
  go_wp2_with fail
  go_loop [3] (fun i => ∃ k : Nat, k ≤ n ∧ i = .int .i64 k ∧ ∀ x ∈ l.take k, 1 ≤ x ∧ x ≤ 62500000000000) (fun i => n - (intOf i).toNat)
  case atStart => exact ⟨0, Nat.zero_le _, rfl, by simp⟩
  case round =>
    obtain ⟨k, hk, rfl, hf⟩ := hrel
    by_cases hlt : k < n
    · obtain ⟨b, o, rfl, hlt0, hc⟩ := HR.out (by omega)
      have hkl : k < l.length := by have := HN.out; omega
      have hc0 := hc k hkl
      have hk0 : (0 : Int) ≤ (k : Int) := by omega
      have hk1 : (k : Int) < (n : Int) := by omega
      have HB := Lib.hid (fun h => wgOk_bad (most := 62500000000000) (List.getElem_mem hkl) h)
      have HF : Hid (1 ≤ l[k] ∧ l[k] ≤ 62500000000000 → ∀ x ∈ l.take (k + 1), 1 ≤ x ∧ x ≤ 62500000000000) := by
        show _ → _
        intro hx x hm
        rw [List.take_succ_eq_append_getElem hkl] at hm
        rcases List.mem_append.1 hm with h | h
        · exact hf x h
        · simp at h; rw [h]; exact hx
      clear hc hf
      generalize l[k] = x at *
      by_cases g : 1 ≤ x ∧ x ≤ 62500000000000
      · have HX := Lib.hid (HF.out g)
        have HG := Lib.hid g
        clear g HB HF
        go_wp2_with fail
        refine (l00In_yes _ _ _ _ HG.out.1 HG.out.2).mono ?_; rintro e w' ⟨rfl, rfl⟩
        go_wp2_with fail
        go_round
        case rel => exact ⟨k + 1, by omega, by go_num, HX.out⟩
        case measure => simp [intOf]; omega
      · have HX := Lib.hid (HB.out g)
        have HG := Lib.hid g
        clear g HB HF
        go_wp2_with fail
        refine (l00In_no _ _ _ _ HG.out).mono ?_; rintro e w' ⟨rfl, rfl⟩
        go_wp2_with fail
        go_ret
        exact ⟨ret_bool HX.out.symm, rfl⟩
    · obtain rfl : k = n := by omega
      have HX : Hid (wgOk 62500000000000 l = (decide (2 ≤ k) && decide (k ≤ 16))) := by
        show _ = _
        rw [List.take_of_length_le (by have := HN.out; omega)] at hf
        by_cases g : 2 ≤ k ∧ k ≤ 16
        · rw [wgOk_mk (by have := HN.out; omega) (by have := HN.out; omega) hf, decide_eq_true g.1, decide_eq_true g.2]; rfl
        · rw [wgOk_len (by have := HN.out; omega)]
          by_cases g1 : 2 ≤ k
          · rw [decide_eq_false (show ¬ k ≤ 16 from fun e => g ⟨g1, e⟩)]; simp
          · rw [decide_eq_false g1]; rfl
      clear hf
      by_cases g1 : 2 ≤ k
      · by_cases g2 : k ≤ 16
        · have HY : Hid (wgOk 62500000000000 l = true) := by show _ = _; rw [HX.out, decide_eq_true g1, decide_eq_true g2]; rfl
          go_wp2_with fail
          go_ret
          exact ⟨ret_bool (by rw [HY.out]; first | rfl | (simp; omega)), rfl⟩
        · have HY : Hid (wgOk 62500000000000 l = false) := by show _ = _; rw [HX.out, decide_eq_false g2]; simp
          go_wp2_with fail
          go_ret
          exact ⟨ret_bool (by rw [HY.out]; first | rfl | (simp; omega)), rfl⟩
      · have HY : Hid (wgOk 62500000000000 l = false) := by show _ = _; rw [HX.out, decide_eq_false g1]; rfl
        go_wp2_with fail
        go_ret
        exact ⟨ret_bool HY.out.symm, rfl⟩
end Go.Proofs.Ytjhgkkecconcaab
