/- Contracts of l01Ones and both OnesOf, and the walk of their law. -/
import Derived.Test.YtcihogbkfpcfjaaBits
import Derived.Test.YtcihogbkfpcfjaaShelf
namespace Go.Proofs.Ytcihogbkfpcfjaa
open Go Go.RowKit
set_option linter.unusedVariables false

/-- How many bytes are 49. -/
def onesL (l : List UInt8) : Int := ((Lib.countByte l 49 : Nat) : Int)
theorem onesL_snoc (l : List UInt8) (c : UInt8) (h : 48 ≤ (c.toNat : Int) ∧ (c.toNat : Int) ≤ 49) : onesL (l ++ [c]) = onesL l + ((c.toNat : Int) - 48) := by
  unfold onesL Lib.countByte
  rw [List.count_append, List.count_singleton]
  by_cases h9 : c = 49
  · subst h9
    have : (UInt8.toNat 49 : Int) = 49 := rfl
    simp
  · have h8 : (c.toNat : Int) = 48 := by
      rcases (show (c.toNat : Int) = 48 ∨ (c.toNat : Int) = 49 from by omega) with h | h
      · exact h
      · exact absurd (UInt8.toNat_inj.1 (by simpa using (by omega : c.toNat = 49))) h9
    rw [if_neg (by simpa using h9), h8]; simp
theorem onesL_bd (l : List UInt8) : 0 ≤ onesL l ∧ onesL l ≤ l.length := by
  unfold onesL Lib.countByte
  exact ⟨by omega, by have := List.count_le_length (a := (49 : UInt8)) (l := l); omega⟩

set_option maxRecDepth 100000 in
theorem l01Ones_any (s : ByteArray) (w : World) (hs : s.size ≤ 400) (hb : inR 48 49 s.data.toList = true) :
    Calls Try.prog 66 #[.string s] w fun e w' => e = .returned (.int .i64 (onesL s.data.toList)) ∧ w = w' := by
  have HB := Lib.hid hb
  clear hb
  go_enter Try.func66, Try.ntmps66
  go_wp2
  go_loop [3, 4] (fun n i => ∃ k : Nat, k ≤ s.size ∧ i = .int .i64 k ∧ n = .int .i64 (onesL (s.data.toList.take k))) (fun _ i => s.size - (intOf i).toNat)
  case atStart => exact ⟨0, Nat.zero_le _, rfl, rfl⟩
  case round =>
    obtain ⟨k, hk, rfl, rfl⟩ := hrel
    by_cases hp : k < s.size
    · have hin := inR_at 48 49 s k hp HB.out
      have hsn : onesL (s.data.toList.take (k + 1)) = onesL (s.data.toList.take k) + ((s[k].toNat : Int) - 48) := by rw [take_snoc s k hp, onesL_snoc _ _ hin]
      have HS := Lib.hid hsn
      obtain ⟨h1, h2⟩ := hin
      obtain ⟨h3, h4⟩ := onesL_bd (s.data.toList.take k)
      have h5 : onesL (s.data.toList.take k) ≤ 400 := by
        have : (s.data.toList.take k).length ≤ k := List.length_take_le _ _
        omega
      clear hsn h4
      go_wp2
      go_round
      case rel => exact ⟨k + 1, by omega, by go_num, by rw [HS.out]⟩
      case measure => simp [intOf]; omega
    · have HE := Lib.hid (take_all s k hp)
      go_wp2
      go_ret
      exact ⟨ret_int (by rw [HE.out]), rfl⟩

/-- What OnesOf answers. -/
def onesA (l : List UInt8) : Int := if isB l = true then onesL l else 0

end Go.Proofs.Ytcihogbkfpcfjaa
