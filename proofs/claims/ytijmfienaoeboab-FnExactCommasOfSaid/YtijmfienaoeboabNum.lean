/- Contracts of l01Number, and of the model's and the program's NumberOfBits. -/
import Derived.Test.YtijmfienaoeboabBits
namespace Go.Proofs.Ytijmfienaoeboab
open Go Go.RowKit
set_option linter.unusedVariables false

/-- The number of bits. -/
def valN (l : List UInt8) : Int := l.foldl (fun a c => 2 * a + ((c.toNat : Int) - 48)) 0
theorem valN_snoc (l : List UInt8) (c : UInt8) : valN (l ++ [c]) = 2 * valN l + ((c.toNat : Int) - 48) := by simp [valN, List.foldl_append]
theorem valN_bd : ∀ (n : Nat) (l : List UInt8), l.length = n → inR 48 49 l = true → 0 ≤ valN l ∧ valN l < 2 ^ n := by
  intro n
  induction n with
  | zero => intro l hl _; rw [List.length_eq_zero_iff] at hl; subst hl; simp [valN]
  | succ n ih =>
    intro l hl h
    rcases List.eq_nil_or_concat l with rfl | ⟨m, c, rfl⟩
    · simp at hl
    · rw [List.concat_eq_append] at *
      rw [inR_append] at h
      simp at hl
      have h' := Bool.and_eq_true_iff.1 h
      have hm := ih m hl h'.1
      have hc : 48 ≤ (c.toNat : Int) ∧ (c.toNat : Int) ≤ 49 := by simpa [inR] using h'.2
      rw [valN_snoc, Int.pow_succ]
      omega
theorem valN_60 (l : List UInt8) (hl : l.length ≤ 59) (h : inR 48 49 l = true) : 0 ≤ valN l ∧ valN l ≤ 576460752303423488 := by
  have e := valN_bd l.length l rfl h
  have e2 : (2 : Int) ^ l.length ≤ 2 ^ 59 := by
    have := Nat.pow_le_pow_right (n := 2) (by decide) hl
    exact_mod_cast this
  have e3 : (2 : Int) ^ 59 = 576460752303423488 := by decide
  omega

set_option maxRecDepth 100000 in
/-- spec.l01Number of at most 60 bits. -/
theorem l01Number_any (s : ByteArray) (w : World) (hs : s.size ≤ 60) (hb : inR 48 49 s.data.toList = true) :
    Calls Try.prog 120 #[.string s] w fun e w' => e = .returned (.int .i64 (valN s.data.toList)) ∧ w = w' := by
  have HB := Lib.hid hb
  clear hb
  go_enter Try.func120, Try.ntmps120
  go_wp2
  go_loop [3, 4] (fun n i => ∃ k : Nat, k ≤ s.size ∧ i = .int .i64 k ∧ n = .int .i64 (valN (s.data.toList.take k))) (fun _ i => s.size - (intOf i).toNat)
  case atStart => exact ⟨0, Nat.zero_le _, rfl, rfl⟩
  case round =>
    obtain ⟨k, hk, rfl, rfl⟩ := hrel
    by_cases hp : k < s.size
    · have hsn : valN (s.data.toList.take (k + 1)) = 2 * valN (s.data.toList.take k) + ((s[k].toNat : Int) - 48) := by rw [take_snoc s k hp, valN_snoc]
      have HS := Lib.hid hsn
      have hin := inR_at 48 49 s k hp HB.out
      obtain ⟨h1, h2⟩ := hin
      have hv := valN_60 (s.data.toList.take k) (by simp; omega) (inR_take 48 49 s k HB.out)
      obtain ⟨h3, h4⟩ := hv
      clear hsn
      go_wp2
      go_round
      case rel => exact ⟨k + 1, by omega, by go_num, by rw [HS.out]⟩
      case measure => simp [intOf]; omega
    · have HE := Lib.hid (take_all s k hp)
      go_wp2
      go_ret
      exact ⟨ret_int (by rw [HE.out]), rfl⟩

/-- Whether bits have at most 60, and all are bits. -/
def nobOk (l : List UInt8) : Bool := isB l && decide (l.length ≤ 60)
theorem nobOk_parts {l : List UInt8} (h : nobOk l = true) : isB l = true ∧ l.length ≤ 60 ∧ inR 48 49 l = true := by
  unfold nobOk at h
  have h' := Bool.and_eq_true_iff.1 h
  have h2 := h'.1
  unfold isB at h2
  exact ⟨h'.1, of_decide_eq_true h'.2, (Bool.and_eq_true_iff.1 h2).2⟩

end Go.Proofs.Ytijmfienaoeboab
