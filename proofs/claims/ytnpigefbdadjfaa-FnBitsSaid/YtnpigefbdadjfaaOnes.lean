/- Contracts of l01Ones and both OnesOf, and the walk of their law. -/
import Derived.Test.YtnpigefbdadjfaaBits
import Derived.Test.YtnpigefbdadjfaaShelf
namespace Go.Proofs.Ytnpigefbdadjfaa
open Go Go.RowKit
set_option linter.unusedVariables false

/-- How many bytes are 49. -/
def onesL (l : List UInt8) : Int := ((Lib.countByte l 49 : Nat) : Int)
theorem onesL_snoc (l : List UInt8) (c : UInt8) (h : 48 ≤ (c.toNat : Int) ∧ (c.toNat : Int) ≤ 49) : onesL (l ++ [c]) = onesL l + ((c.toNat : Int) - 48) := by
  unfold onesL Lib.countByte
  rw [List.count_append, List.count_singleton]
  by_cases h9 : c = 49
  · subst h9
    have : (UInt8.toNat 49 : Int) = 49 := rfl
    simp
  · have h8 : (c.toNat : Int) = 48 := by
      rcases (show (c.toNat : Int) = 48 ∨ (c.toNat : Int) = 49 from by omega) with h | h
      · exact h
      · exact absurd (UInt8.toNat_inj.1 (by simpa using (by omega : c.toNat = 49))) h9
    rw [if_neg (by simpa using h9), h8]; simp
theorem onesL_bd (l : List UInt8) : 0 ≤ onesL l ∧ onesL l ≤ l.length := by
  unfold onesL Lib.countByte
  exact ⟨by omega, by have := List.count_le_length (a := (49 : UInt8)) (l := l); omega⟩

/-- What OnesOf answers. -/
def onesA (l : List UInt8) : Int := if isB l = true then onesL l else 0

theorem ones_impl (s : ByteArray) (w : World) (hs : s.size ≤ maxLen) :
    Calls Try.prog 12 #[.string s] w fun e w' => e = .returned (.tuple #[.int .i64 (onesA s.data.toList), .bool (isB s.data.toList)]) ∧ Below w.heap.size w w' := by
  have HS := Lib.hid hs
  clear hs
  cases hB : isB s.data.toList
  · have HR : Hid (onesA s.data.toList = 0) := by show _ = _; unfold onesA; rw [if_neg (by rw [hB]; decide)]
    go_enter Try.func12, Try.ntmps12
    go_wp2_with fail
    refine (isBits_any _ _ HS.out).mono ?_; rintro e w' ⟨rfl, hb⟩
    go_wp2_with fail
    go_ret2
    exact ⟨ret_ib (by rw [HR.out]) rfl, hb⟩
  · have HR : Hid (onesA s.data.toList = ((Lib.countByte s.data.toList 49 : Nat) : Int)) := by show _ = _; unfold onesA; rw [if_pos hB]; rfl
    have hq := Lib.hid (onesL_bd s.data.toList)
    go_enter Try.func12, Try.ntmps12
    go_wp2_with fail
    refine (isBits_any _ _ HS.out).mono ?_; rintro e w' ⟨rfl, hb⟩
    go_wp2_with fail
    refine (Try.strings_Count_one _ 49 _).mono ?_; rintro e w' ⟨rfl, rfl⟩
    go_wp2_with fail
    go_ret2
    exact ⟨ret_ib (by rw [HR.out]) rfl, hb⟩

end Go.Proofs.Ytnpigefbdadjfaa
