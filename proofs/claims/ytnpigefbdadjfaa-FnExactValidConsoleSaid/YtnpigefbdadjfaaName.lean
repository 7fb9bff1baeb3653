/- Contracts of the model's and the program's IsName and IsBits, and their laws' walks. -/
import Derived.Test.YtnpigefbdadjfaaBits
namespace Go.Proofs.Ytnpigefbdadjfaa
open Go Go.RowKit
set_option linter.unusedVariables false

/-- A name. -/
def isNm (l : List UInt8) : Bool := decide (1 ≤ l.length ∧ l.length ≤ 10) && inR 97 122 l

theorem isName_impl (s : ByteArray) (w : World) (hs : s.size ≤ maxLen) :
    Calls Try.prog 82 #[.string s] w fun e w' => e = .returned (.bool (isNm s.data.toList)) ∧ Below w.heap.size w w' := by
  unfold maxLen at hs
  by_cases h : 1 ≤ s.size ∧ s.size ≤ 10
  · have HE : Hid (isNm s.data.toList = inR 97 122 s.data.toList) := by
      show isNm s.data.toList = _
      unfold isNm; rw [decide_eq_true (by simpa using h)]; rfl
    obtain ⟨h1, h2⟩ := h
    go_enter Try.func82, Try.ntmps82
    go_wp2_with (first | (go_at_call 68; refine (runes_any _ _ _ (by omega) (by omega) _).mono ?_; rintro e w' ⟨rfl, hb⟩) | go_in)
    go_ret
    exact ⟨by rw [HE.out]; rfl, ‹_›⟩
  · have HE : Hid (isNm s.data.toList = false) := by
      show isNm s.data.toList = _
      unfold isNm; rw [decide_eq_false (by simpa using h)]; rfl
    by_cases h1 : 1 ≤ s.size
    · have h2 : ¬ s.size ≤ 10 := fun e => h ⟨h1, e⟩
      clear h
      go_enter Try.func82, Try.ntmps82
      go_wp2_with go_in
      go_ret
      exact ⟨by rw [HE.out]; rfl, Below.refl _ _⟩
    · clear h
      go_enter Try.func82, Try.ntmps82
      go_wp2_with go_in
      go_ret
      exact ⟨by rw [HE.out]; rfl, Below.refl _ _⟩

set_option maxRecDepth 100000 in
theorem isName_spec (s : ByteArray) (w : World) (hs : s.size ≤ maxLen) :
    Calls Try.prog 79 #[.string s] w fun e w' => e = .returned (.bool (isNm s.data.toList)) ∧ w = w' := by
  unfold maxLen at hs
  go_enter Try.func79, Try.ntmps79
  go_wp2
  go_loop [3] (fun i => ∃ k : Nat, k ≤ s.size ∧ i = .int .i64 k ∧ inR 97 122 (s.data.toList.take k) = true) (fun i => s.size - (intOf i).toNat)
  case atStart => exact ⟨0, Nat.zero_le _, rfl, rfl⟩
  case round =>
    obtain ⟨k, hk, rfl, hin⟩ := hrel
    by_cases hp : k < s.size
    · by_cases hin2 : 97 ≤ (s[k].toNat : Int) ∧ (s[k].toNat : Int) ≤ 122
      · have hs1 : inR 97 122 (s.data.toList.take (k + 1)) = true := by rw [inR_snoc 97 122 s k hp, hin, decide_eq_true hin2]; rfl
        obtain ⟨h1, h2⟩ := hin2
        have HS := Lib.hid hs1
        clear hs1 hin
        go_wp2
        go_round
        case rel => exact ⟨k + 1, by omega, by go_num, HS.out⟩
        case measure => simp [intOf]; omega
      · have hb : isNm s.data.toList = false := by unfold isNm; rw [inR_bad 97 122 s k hp hin2]; simp
        have HB := Lib.hid hb
        clear hb hin
        by_cases h3 : (s[k].toNat : Int) < 97
        · clear hin2
          go_wp2
          go_ret
          exact ⟨by rw [HB.out]; rfl, rfl⟩
        · have h4 : 122 < (s[k].toNat : Int) := by omega
          clear hin2
          go_wp2
          go_ret
          exact ⟨by rw [HB.out]; rfl, rfl⟩
    · have hr := inR_of_take 97 122 s k hp hin
      clear hin
      have HB : Hid (isNm s.data.toList = decide (1 ≤ s.size ∧ s.size ≤ 10)) := by
        show isNm s.data.toList = _
        unfold isNm; rw [hr]; simp
      clear hr
      by_cases h1 : 1 ≤ s.size
      · by_cases h2 : s.size ≤ 10
        · have HC : Hid (decide (1 ≤ s.size ∧ s.size ≤ 10) = true) := decide_eq_true ⟨h1, h2⟩
          have h1' : decide ((1 : Int) ≤ s.size) = true := decide_eq_true (by omega)
          have h2' : decide ((s.size : Int) ≤ 10) = true := decide_eq_true (by omega)
          go_wp2
          go_ret
          exact ⟨ret_bool (by rw [HB.out, HC.out]), rfl⟩
        · have HC : Hid (decide (1 ≤ s.size ∧ s.size ≤ 10) = false) := decide_eq_false (fun h => h2 h.2)
          have h1' : decide ((1 : Int) ≤ s.size) = true := decide_eq_true (by omega)
          have h2' : decide ((s.size : Int) ≤ 10) = false := decide_eq_false (by omega)
          go_wp2
          go_ret
          exact ⟨ret_bool (by rw [HB.out, HC.out]), rfl⟩
      · have HC : Hid (decide (1 ≤ s.size ∧ s.size ≤ 10) = false) := decide_eq_false (fun h => h1 h.1)
        have h1' : decide ((1 : Int) ≤ s.size) = false := decide_eq_false (by omega)
        go_wp2
        go_ret
        exact ⟨ret_bool (by rw [HB.out, HC.out]), rfl⟩

end Go.Proofs.Ytnpigefbdadjfaa
