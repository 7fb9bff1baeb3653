/- Contracts of l01Number, and of the model's and the program's NumberOfBits. -/
import Derived.Test.YtnpigefbdadjfaaBits
namespace Go.Proofs.Ytnpigefbdadjfaa
open Go Go.RowKit
set_option linter.unusedVariables false

/-- The number of bits. -/
def valN (l : List UInt8) : Int := l.foldl (fun a c => 2 * a + ((c.toNat : Int) - 48)) 0
theorem valN_snoc (l : List UInt8) (c : UInt8) : valN (l ++ [c]) = 2 * valN l + ((c.toNat : Int) - 48) := by simp [valN, List.foldl_append]
theorem valN_bd : ∀ (n : Nat) (l : List UInt8), l.length = n → inR 48 49 l = true → 0 ≤ valN l ∧ valN l < 2 ^ n := by
  intro n
  induction n with
  | zero => intro l hl _; rw [List.length_eq_zero_iff] at hl; subst hl; simp [valN]
  | succ n ih =>
    intro l hl h
    rcases List.eq_nil_or_concat l with rfl | ⟨m, c, rfl⟩
    · simp at hl
    · rw [List.concat_eq_append] at *
      rw [inR_append] at h
      simp at hl
      have h' := Bool.and_eq_true_iff.1 h
      have hm := ih m hl h'.1
      have hc : 48 ≤ (c.toNat : Int) ∧ (c.toNat : Int) ≤ 49 := by simpa [inR] using h'.2
      rw [valN_snoc, Int.pow_succ]
      omega
theorem valN_60 (l : List UInt8) (hl : l.length ≤ 59) (h : inR 48 49 l = true) : 0 ≤ valN l ∧ valN l ≤ 576460752303423488 := by
  have e := valN_bd l.length l rfl h
  have e2 : (2 : Int) ^ l.length ≤ 2 ^ 59 := by
    have := Nat.pow_le_pow_right (n := 2) (by decide) hl
    exact_mod_cast this
  have e3 : (2 : Int) ^ 59 = 576460752303423488 := by decide
  omega

/-- Whether bits have at most 60, and all are bits. -/
def nobOk (l : List UInt8) : Bool := isB l && decide (l.length ≤ 60)
theorem nobOk_parts {l : List UInt8} (h : nobOk l = true) : isB l = true ∧ l.length ≤ 60 ∧ inR 48 49 l = true := by
  unfold nobOk at h
  have h' := Bool.and_eq_true_iff.1 h
  have h2 := h'.1
  unfold isB at h2
  exact ⟨h'.1, of_decide_eq_true h'.2, (Bool.and_eq_true_iff.1 h2).2⟩

theorem nob_no_impl (s : ByteArray) (w : World) (hs : s.size ≤ maxLen) (h : nobOk s.data.toList = false) :
    Calls Try.prog 9 #[.string s] w fun e w' => e = .returned (.tuple #[.int .i64 0, .bool false]) ∧ Below w.heap.size w w' := by
  have HS := Lib.hid hs
  unfold maxLen at hs
  by_cases h2 : s.size ≤ 60
  · have h1 : isB s.data.toList = false := by
      unfold nobOk at h
      rw [decide_eq_true (by simpa using h2)] at h
      simpa using h
    clear h
    go_enter Try.func9, Try.ntmps9
    go_wp2_with (first | (go_at_call 41; refine (isBits_any _ _ HS.out).mono ?_; rintro e w' ⟨rfl, hb⟩))
    go_ret2
    exact ⟨rfl, ‹_›⟩
  · clear h
    go_enter Try.func9, Try.ntmps9
    go_wp2_with (first | (go_at_call 41; refine (isBits_any _ _ HS.out).mono ?_; rintro e w' ⟨rfl, hb⟩))
    go_ret2
    exact ⟨rfl, Below.refl _ _⟩

set_option maxRecDepth 100000 in
theorem nob_yes_impl (s : ByteArray) (w : World) (hs : s.size ≤ maxLen) (h : nobOk s.data.toList = true) :
    Calls Try.prog 9 #[.string s] w fun e w' => e = .returned (.tuple #[.int .i64 (valN s.data.toList), .bool true]) ∧ Below w.heap.size w w' := by
  obtain ⟨h1, h2, h3⟩ := nobOk_parts h
  have h2' : s.size ≤ 60 := by simpa using h2
  clear h h2
  have HS := Lib.hid hs
  have HB := Lib.hid h3
  clear h3 hs
  go_enter Try.func9, Try.ntmps9
  go_wp2_with (first | (go_at_call 41; refine (isBits_any _ _ HS.out).mono ?_; rintro e w1 ⟨rfl, hb⟩))
  have h1' := Lib.hid h1
  clear h1
  go_loopw [4] (fun n w' => ∃ pos : Nat, pos ≤ s.size ∧ w' = w1.iter s pos ∧ n = .int .i64 (valN (s.data.toList.take pos))) (fun _ w' => s.size - w'.iterPos w1.heap.size)
  case atStart => exact ⟨0, Nat.zero_le _, rfl, rfl⟩
  case round =>
    obtain ⟨pos, hk, rfl, rfl⟩ := hrel
    by_cases hp : pos < s.size
    · have hnx : ∀ ty, (Instr.next (.pointer (some ⟨w1.heap.size, 0, none⟩)) true ty).run Try.prog (w1.iter s pos) = _ := fun ty => run_next_any w1 s pos ty hp
      have hin := inR_at 48 49 s pos hp HB.out
      obtain ⟨h1, h2⟩ := hin
      have hd := decode_ascii s pos hp (by omega)
      rw [hd] at hnx
      clear hd
      have hsn : valN (s.data.toList.take (pos + 1)) = 2 * valN (s.data.toList.take pos) + ((s[pos].toNat : Int) - 48) := by rw [take_snoc s pos hp, valN_snoc]
      have HSN := Lib.hid hsn
      have hv := valN_60 (s.data.toList.take pos) (by simp; omega) (inR_take 48 49 s pos HB.out)
      obtain ⟨h3, h4⟩ := hv
      clear hsn
      go_wp2
      go_roundw
      case rel => exact ⟨pos + 1, by omega, rfl, by rw [HSN.out]⟩
      case measure => simp; omega
    · have hnx : ∀ ty, (Instr.next (.pointer (some ⟨w1.heap.size, 0, none⟩)) true ty).run Try.prog (w1.iter s pos) = _ := fun ty => run_next_end w1 s pos ty hp
      have HE := Lib.hid (take_all s pos hp)
      go_wp2
      go_ret2
      exact ⟨ret_ib (by rw [HE.out]) rfl, hb.trans ((Below.refl _ _).alloc hb.size _)⟩

end Go.Proofs.Ytnpigefbdadjfaa
