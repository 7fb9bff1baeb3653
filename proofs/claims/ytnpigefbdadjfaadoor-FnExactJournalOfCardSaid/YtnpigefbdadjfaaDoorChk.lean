/- Contracts of l01Check and of both CheckOf, and the walk of its law. -/
import Derived.Test.YtnpigefbdadjfaaDoorProg
import Derived.Test.YtnpigefbdadjfaaDoorPl
import Derived.WalkSpells
namespace Go.Proofs.YtnpigefbdadjfaaDoor
open Go Go.RowKit
set_option linter.unusedVariables false

/-- The check number of bytes. -/
def chk (n : Int) (l : List UInt8) : Int := l.foldl (fun a c => (3001 * a + (c.toNat : Int) + 5) % 65003) n
theorem chk_snoc (n : Int) (l : List UInt8) (c : UInt8) : chk n (l ++ [c]) = (3001 * chk n l + (c.toNat : Int) + 5) % 65003 := by simp [chk, List.foldl_append]
theorem chk_bd (n : Int) (l : List UInt8) (h0 : 0 ≤ n) (h1 : n ≤ 65002) : 0 ≤ chk n l ∧ chk n l ≤ 65002 := by
  rcases List.eq_nil_or_concat l with rfl | ⟨m, c, rfl⟩
  · exact ⟨h0, h1⟩
  · rw [List.concat_eq_append, chk_snoc]; omega

set_option maxRecDepth 100000 in
theorem l01Check_any (n : Int) (s : ByteArray) (w : World) (h0 : 0 ≤ n) (h1 : n ≤ 65002) (hs : s.size ≤ maxLen) :
    Calls Tryd.prog 90 #[.int .i64 n, .string s] w fun e w' => e = .returned (.int .i64 (chk n s.data.toList)) ∧ w = w' := by
  unfold maxLen at hs
  go_enter Tryd.func90, Tryd.ntmps90
  go_wp2
  go_loop [0, 5] (fun v i => ∃ k : Nat, k ≤ s.size ∧ i = .int .i64 k ∧ v = .int .i64 (chk n (s.data.toList.take k))) (fun _ i => s.size - (intOf i).toNat)
  case atStart => exact ⟨0, Nat.zero_le _, rfl, rfl⟩
  case round =>
    obtain ⟨k, hk, rfl, rfl⟩ := hrel
    by_cases hp : k < s.size
    · have hsn : chk n (s.data.toList.take (k + 1)) = (3001 * chk n (s.data.toList.take k) + (s[k].toNat : Int) + 5) % 65003 := by rw [take_snoc s k hp, chk_snoc]
      have HS := Lib.hid hsn
      obtain ⟨h3, h4⟩ := chk_bd n (s.data.toList.take k) h0 h1
      have h5 : (s[k].toNat : Int) ≤ 255 := by have := s[k].toNat_lt; omega
      clear hsn
      go_wp2
      go_round
      case rel => exact ⟨k + 1, by omega, by go_num, by rw [HS.out]⟩
      case measure => simp [intOf]; omega
    · have HE := Lib.hid (take_all s k hp)
      go_wp2
      go_ret
      exact ⟨ret_int (by rw [HE.out]), rfl⟩

set_option maxRecDepth 100000 in
theorem checkOf_yes_impl (n : Int) (s : ByteArray) (w : World) (h0 : 0 ≤ n) (h1 : n ≤ 65002) (hs : s.size ≤ maxLen) :
    Calls Tryd.prog 85 #[.int .i64 n, .string s] w fun e w' => e = .returned (.tuple #[.int .i64 (chk n s.data.toList), .bool true]) ∧ w = w' := by
  unfold maxLen at hs
  go_enter Tryd.func85, Tryd.ntmps85
  go_wp2
  go_loop [6, 14] (fun v i => ∃ k : Nat, k ≤ s.size ∧ i = .int .i64 k ∧ v = .int .i64 (chk n (s.data.toList.take k))) (fun _ i => s.size - (intOf i).toNat)
  case atStart => exact ⟨0, Nat.zero_le _, rfl, rfl⟩
  case round =>
    obtain ⟨k, hk, rfl, rfl⟩ := hrel
    by_cases hp : k < s.size
    · have hsn : chk n (s.data.toList.take (k + 1)) = (3001 * chk n (s.data.toList.take k) + (s[k].toNat : Int) + 5) % 65003 := by rw [take_snoc s k hp, chk_snoc]
      have HS := Lib.hid hsn
      obtain ⟨h3, h4⟩ := chk_bd n (s.data.toList.take k) h0 h1
      have h5 : (s[k].toNat : Int) ≤ 255 := by have := s[k].toNat_lt; omega
      clear hsn
      go_wp2
      go_round
      case rel => exact ⟨k + 1, by omega, by go_num, by rw [HS.out]⟩
      case measure => simp [intOf]; omega
    · have HE := Lib.hid (take_all s k hp)
      go_wp2
      go_ret2
      exact ⟨ret_ib (by rw [HE.out]) rfl, rfl⟩

theorem checkOf_no_impl (n : Int) (s : ByteArray) (w : World) (h : ¬ (0 ≤ n ∧ n ≤ 65002)) :
    Calls Tryd.prog 85 #[.int .i64 n, .string s] w fun e w' => e = .returned (.tuple #[.int .i64 0, .bool false]) ∧ w = w' := by
  by_cases h0 : 0 ≤ n
  · have h1 : ¬ n ≤ 65002 := fun e => h ⟨h0, e⟩
    clear h
    go_enter Tryd.func85, Tryd.ntmps85
    go_wp2
    go_ret2
    exact ⟨rfl, rfl⟩
  · clear h
    go_enter Tryd.func85, Tryd.ntmps85
    go_wp2
    go_ret2
    exact ⟨rfl, rfl⟩

end Go.Proofs.YtnpigefbdadjfaaDoor
