/- The model's BitsOf, and the walk of its law. -/
import Derived.Test.YtdffopedlgpahaaDig
namespace Go.Proofs.Ytdffopedlgpahaa
open Go Go.RowKit
set_option linter.unusedVariables false

theorem bitsOf_yes_spec (n : Int) (k : Nat) (w : World) (hk : k ≤ 60) (h0 : 0 ≤ n) (h1 : n < 2 ^ k) :
    Calls Try.prog 39 #[.int .i64 n, .int .i64 k] w fun e w' => e = .returned (.tuple #[.string ⟨(digs n k k).toArray⟩, .bool true]) ∧ Below w.heap.size w w' := by
  obtain ⟨hp1, hp2⟩ := two_pow_bd k hk
  have H1 := Lib.hid h1
  have hn : n ≤ 9223372036854775807 := by omega
  clear h1 hp1 hp2
  have hz : n / 2 ^ k = 0 := Int.ediv_eq_zero_of_lt h0 H1.out
  have HN := Lib.hid hn
  clear hn
  go_enter Try.func39, Try.ntmps39
  go_wp2_with (first | (go_at_call 62; refine (l01Digits_any _ _ _ h0 HN.out hk).mono ?_; rintro e w' ⟨rfl, hb⟩) | go_in)
  go_ret2
  exact ⟨rfl, ‹_›⟩

theorem bitsOf_no_spec (n k : Int) (w : World) (h : ¬ (0 ≤ k ∧ k ≤ 60 ∧ 0 ≤ n ∧ n < 2 ^ k.toNat)) :
    Calls Try.prog 39 #[.int .i64 n, .int .i64 k] w fun e w' => e = .returned (.tuple #[.string ⟨#[]⟩, .bool false]) ∧ w = w' := by
  by_cases hk0 : 0 ≤ k
  · by_cases hk : k ≤ 60
    · obtain ⟨k, rfl⟩ := Int.eq_ofNat_of_zero_le hk0
      obtain ⟨hp1, hp2⟩ := two_pow_bd k (by omega)
      rw [Int.toNat_natCast] at h
      by_cases hn : 0 ≤ n
      · have h2 : ¬ n / 2 ^ k = 0 := by
          have : 1 ≤ n / 2 ^ k := by
            rw [Int.le_ediv_iff_mul_le (by omega)]; omega
          omega
        have h3 := bne_t h2
        clear h h2 hp1 hp2
        go_enter Try.func39, Try.ntmps39
        go_wp2_with go_in
        go_ret2
        exact ⟨rfl, rfl⟩
      · clear h
        go_enter Try.func39, Try.ntmps39
        go_wp2_with go_in
        go_ret2
        exact ⟨rfl, rfl⟩
    · clear h
      go_enter Try.func39, Try.ntmps39
      go_wp2_with go_in
      go_ret2
      exact ⟨rfl, rfl⟩
  · clear h
    go_enter Try.func39, Try.ntmps39
    go_wp2_with go_in
    go_ret2
    exact ⟨rfl, rfl⟩

theorem law_FnExactBitsOf (n : Int) (hn : (Lit.int .i64 n).wf = true) (k : Int) (hk : (Lit.int .i64 k).wf = true) (w : World) :
    Calls Try.prog 12 #[.int .i64 n, .int .i64 k] w fun e w' => e = .returned (.bool true) ∧ Below w.heap.size w w' := by
  clear hn hk
  by_cases h : 0 ≤ k ∧ k ≤ 60 ∧ 0 ≤ n ∧ n < 2 ^ k.toNat
  · obtain ⟨h1, h2, h3, h4⟩ := h
    obtain ⟨k, rfl⟩ := Int.eq_ofNat_of_zero_le h1
    rw [Int.toNat_natCast] at h4
    have h2' : k ≤ 60 := by omega
    have H4 := Lib.hid h4
    clear h4 h1 h2
    go_enter Try.func12, Try.ntmps12
    go_wp2_with (first | (go_at_call 39; refine (bitsOf_yes_spec _ _ _ h2' h3 H4.out).mono ?_; rintro e w1 ⟨rfl, hb1⟩) | (go_at_call 40; refine (bitsOf_yes_impl _ _ _ h2' h3 H4.out).mono ?_; rintro e w2 ⟨rfl, hb2⟩))
    go_ret
    exact ⟨rfl, hb1.trans (hb2.mono hb1.size)⟩
  · have H := Lib.hid h
    clear h
    go_enter Try.func12, Try.ntmps12
    go_wp2_with (first | (go_at_call 39; refine (bitsOf_no_spec _ _ _ H.out).mono ?_; rintro e w1 ⟨rfl, rfl⟩) | (go_at_call 40; refine (bitsOf_no_impl _ _ _ H.out).mono ?_; rintro e w2 ⟨rfl, rfl⟩))
    go_ret
    exact ⟨rfl, Below.refl _ _⟩
end Go.Proofs.Ytdffopedlgpahaa
