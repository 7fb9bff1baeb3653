/- Contracts of l01Ones and both OnesOf, and the walk of their law. -/
import Derived.Test.YtjmaapbodacggaaBits
import Derived.Test.YtjmaapbodacggaaShelf
namespace Go.Proofs.Ytjmaapbodacggaa
open Go Go.RowKit
set_option linter.unusedVariables false

/-- How many bytes are 49. -/
def onesL (l : List UInt8) : Int := ((Lib.countByte l 49 : Nat) : Int)
theorem onesL_snoc (l : List UInt8) (c : UInt8) (h : 48 ≤ (c.toNat : Int) ∧ (c.toNat : Int) ≤ 49) : onesL (l ++ [c]) = onesL l + ((c.toNat : Int) - 48) := by
  unfold onesL Lib.countByte
  rw [List.count_append, List.count_singleton]
  by_cases h9 : c = 49
  · subst h9
    have : (UInt8.toNat 49 : Int) = 49 := rfl
    simp
  · have h8 : (c.toNat : Int) = 48 := by
      rcases (show (c.toNat : Int) = 48 ∨ (c.toNat : Int) = 49 from by omega) with h | h
      · exact h
      · exact absurd (UInt8.toNat_inj.1 (by simpa using (by omega : c.toNat = 49))) h9
    rw [if_neg (by simpa using h9), h8]; simp
theorem onesL_bd (l : List UInt8) : 0 ≤ onesL l ∧ onesL l ≤ l.length := by
  unfold onesL Lib.countByte
  exact ⟨by omega, by have := List.count_le_length (a := (49 : UInt8)) (l := l); omega⟩

set_option maxRecDepth 100000 in
theorem l01Ones_any (s : ByteArray) (w : World) (hs : s.size ≤ 400) (hb : inR 48 49 s.data.toList = true) :
    Calls Try.prog 144 #[.string s] w fun e w' => e = .returned (.int .i64 (onesL s.data.toList)) ∧ w = w' := by
  have HB := Lib.hid hb
  clear hb
  go_enter Try.func144, Try.ntmps144
  go_wp2
  go_loop [3, 4] (fun n i => ∃ k : Nat, k ≤ s.size ∧ i = .int .i64 k ∧ n = .int .i64 (onesL (s.data.toList.take k))) (fun _ i => s.size - (intOf i).toNat)
  case atStart => exact ⟨0, Nat.zero_le _, rfl, rfl⟩
  case round =>
    obtain ⟨k, hk, rfl, rfl⟩ := hrel
    by_cases hp : k < s.size
    · have hin := inR_at 48 49 s k hp HB.out
      have hsn : onesL (s.data.toList.take (k + 1)) = onesL (s.data.toList.take k) + ((s[k].toNat : Int) - 48) := by rw [take_snoc s k hp, onesL_snoc _ _ hin]
      have HS := Lib.hid hsn
      obtain ⟨h1, h2⟩ := hin
      obtain ⟨h3, h4⟩ := onesL_bd (s.data.toList.take k)
      have h5 : onesL (s.data.toList.take k) ≤ 400 := by
        have : (s.data.toList.take k).length ≤ k := List.length_take_le _ _
        omega
      clear hsn h4
      go_wp2
      go_round
      case rel => exact ⟨k + 1, by omega, by go_num, by rw [HS.out]⟩
      case measure => simp [intOf]; omega
    · have HE := Lib.hid (take_all s k hp)
      go_wp2
      go_ret
      exact ⟨ret_int (by rw [HE.out]), rfl⟩

/-- What OnesOf answers. -/
def onesA (l : List UInt8) : Int := if isB l = true then onesL l else 0

theorem ones_impl (s : ByteArray) (w : World) (hs : s.size ≤ maxLen) :
    Calls Try.prog 146 #[.string s] w fun e w' => e = .returned (.tuple #[.int .i64 (onesA s.data.toList), .bool (isB s.data.toList)]) ∧ Below w.heap.size w w' := by
  have HS := Lib.hid hs
  clear hs
  cases hB : isB s.data.toList
  · have HR : Hid (onesA s.data.toList = 0) := by show _ = _; unfold onesA; rw [if_neg (by rw [hB]; decide)]
    go_enter Try.func146, Try.ntmps146
    go_wp2_with fail
    refine (isBits_any _ _ HS.out).mono ?_; rintro e w' ⟨rfl, hb⟩
    go_wp2_with fail
    go_ret2
    exact ⟨ret_ib (by rw [HR.out]) rfl, hb⟩
  · have HR : Hid (onesA s.data.toList = ((Lib.countByte s.data.toList 49 : Nat) : Int)) := by show _ = _; unfold onesA; rw [if_pos hB]; rfl
    have hq := Lib.hid (onesL_bd s.data.toList)
    go_enter Try.func146, Try.ntmps146
    go_wp2_with fail
    refine (isBits_any _ _ HS.out).mono ?_; rintro e w' ⟨rfl, hb⟩
    go_wp2_with fail
    refine (Try.strings_Count_one _ 49 _).mono ?_; rintro e w' ⟨rfl, rfl⟩
    go_wp2_with fail
    go_ret2
    exact ⟨ret_ib (by rw [HR.out]) rfl, hb⟩

end Go.Proofs.Ytjmaapbodacggaa
