/- slices.Max over numbers that are read. -/
import Derived.Test.YtddlpbpcdjddpaaRd
namespace Go.Proofs.Ytddlpbpcdjddpaa
open Go Go.RowKit
set_option linter.unusedVariables false

def IsMax (l : List Int) (m : Int) : Prop := m ∈ l ∧ ∀ x ∈ l, x ≤ m
theorem isMax_snoc {l : List Int} {m x : Int} (h : IsMax l m) : IsMax (l ++ [x]) (if m < x then x else m) := by
  by_cases e : m < x
  · rw [if_pos e]
    refine ⟨by simp, fun y hy => ?_⟩
    rcases List.mem_append.1 hy with h' | h'
    · have := h.2 y h'; omega
    · simp at h'; omega
  · rw [if_neg e]
    refine ⟨by simp [h.1], fun y hy => ?_⟩
    rcases List.mem_append.1 hy with h' | h'
    · exact h.2 y h'
    · simp at h'; omega
theorem isMax_one (l : List Int) (h : 0 < l.length) : IsMax (l.take 1) l[0] := by
  cases l with
  | nil => simp at h
  | cons a t => exact ⟨by simp, by simp⟩

set_option maxRecDepth 100000 in
theorem max_any (w : World) (v : Value) (l : List Int) (h : Rd w v l) (h0 : 0 < l.length) :
    Calls Try.prog 70 #[v] w fun e w' => ∃ m : Int, e = .returned (.int .i64 m) ∧ IsMax l m ∧ w = w' := by
  have hlen := h.len
  unfold maxLen at hlen
  have h1 := isMax_one l h0
  obtain ⟨A, n, c, rfl, hn, -, -, r⟩ := h
  rw [hn] at hlen h0
  obtain ⟨b, o, rfl, hlt0, hc⟩ := r h0
  have c0 := hc 0 (by omega)
  rw [Nat.add_zero] at c0
  have HN := Lib.hid hn
  have HC := Lib.hid hc
  clear hn hc r
  have HI := Lib.hid h1
  clear h1
  generalize l[0]'(by have := HN.out; omega) = m0 at *
  go_enter Try.func70, Try.ntmps70
  go_wp2_with fail
  go_loop [3, 4] (fun mm i => ∃ (k : Nat) (m : Int), 1 ≤ k ∧ k ≤ n ∧ i = .int .i64 k ∧ mm = .int .i64 m ∧ IsMax (l.take k) m) (fun _ i => n - (intOf i).toNat)
  case atStart => exact ⟨1, m0, Nat.le_refl _, h0, rfl, rfl, HI.out⟩
  case round =>
    obtain ⟨k, m, k1, hk, rfl, rfl, hm⟩ := hrel
    clear c0 HI
    by_cases hlt : k < n
    · have hkl : k < l.length := by have := HN.out; omega
      have hc0 := HC.out k hkl
      have hs := isMax_snoc (x := l[k]) hm
      rw [← List.take_succ_eq_append_getElem hkl] at hs
      have HS := Lib.hid hs
      have hk0 : (0 : Int) ≤ (k : Int) := by omega
      have hk1 : (k : Int) < (n : Int) := by omega
      clear hs hm
      generalize l[k] = x at *
      by_cases e : m < x
      · have HX : Hid (IsMax (l.take (k + 1)) x) := by show IsMax _ _; have := HS.out; rwa [if_pos e] at this
        clear HS
        go_wp2_with fail
        go_round
        case rel => exact ⟨k + 1, x, by omega, by omega, by go_num, rfl, HX.out⟩
        case measure => simp [intOf]; omega
      · have HX : Hid (IsMax (l.take (k + 1)) m) := by show IsMax _ _; have := HS.out; rwa [if_neg e] at this
        clear HS
        go_wp2_with fail
        go_round
        case rel => exact ⟨k + 1, m, by omega, by omega, by go_num, rfl, HX.out⟩
        case measure => simp [intOf]; omega
    · obtain rfl : k = n := by omega
      have HX : Hid (IsMax l m) := by show IsMax _ _; rwa [List.take_of_length_le (by have := HN.out; omega)] at hm
      clear hm
      go_wp2_with fail
      go_ret
      exact ⟨m, rfl, HX.out, rfl⟩

end Go.Proofs.Ytddlpbpcdjddpaa
