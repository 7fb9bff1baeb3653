/- Contracts of l01Gcd, commonDivisor and magnitude. -/
import Derived.Test.YtnpigefbdadjfaaDoorProg
import Derived.Test.YtnpigefbdadjfaaDoorPl
import Derived.WalkSpells
import Derived.WalkSmall
import Derived.Deep.QuietTactic
import Derived.BigQuiet
namespace Go.Proofs.YtnpigefbdadjfaaDoor
open Go Go.RowKit
set_option linter.unusedVariables false

theorem gcd_step (x y : Nat) (h : 0 < y) : Nat.gcd y (x % y) = Nat.gcd x y := by
  rw [Nat.gcd_comm y, ← Nat.gcd_rec, Nat.gcd_comm]

set_option maxRecDepth 100000 in
theorem l01Gcd_any (a b : Int) (w : World) (ha : 0 ≤ a) (hb : 0 ≤ b) (ha2 : a ≤ 9000000000000000000) (hb2 : b ≤ 9000000000000000000) :
    Calls Tryd.prog 121 #[.int .i64 a, .int .i64 b] w fun e w' => e = .returned (.int .i64 (Nat.gcd a.toNat b.toNat)) ∧ w = w' := by
  go_enter Tryd.func121, Tryd.ntmps121
  go_wp2
  go_loop [0, 1] (fun u v => ∃ x y : Nat, x ≤ 9000000000000000000 ∧ y ≤ 9000000000000000000 ∧ u = .int .i64 x ∧ v = .int .i64 y ∧ Nat.gcd x y = Nat.gcd a.toNat b.toNat) (fun _ v => (intOf v).toNat)
  case atStart => exact ⟨a.toNat, b.toNat, by omega, by omega, by rw [Int.toNat_of_nonneg ha], by rw [Int.toNat_of_nonneg hb], rfl⟩
  case round =>
    obtain ⟨x, y, hx, hy, rfl, rfl, hg⟩ := hrel
    have HG := Lib.hid hg
    clear hg ha hb ha2 hb2
    by_cases h : 0 < y
    · have hmod : (x : Int) % (y : Int) = ((x % y : Nat) : Int) := by simp
      have hlt : x % y < y := Nat.mod_lt _ h
      have HM := Lib.hid hmod
      have HS := Lib.hid (gcd_step x y h)
      clear hmod
      go_wp2
      go_round
      case rel => exact ⟨y, x % y, by omega, by omega, rfl, by rw [HM.out], by rw [HS.out]; exact HG.out⟩
      case measure => rw [HM.out]; simp [intOf]; omega
    · obtain rfl : y = 0 := by omega
      have HE : Hid (Nat.gcd a.toNat b.toNat = x) := by
        show _ = _
        rw [← HG.out, Nat.gcd_zero_right]
      go_wp2
      go_ret
      exact ⟨ret_int (by rw [HE.out]), rfl⟩

set_option maxRecDepth 100000 in
theorem commonDivisor_any (a b : Int) (w : World) (ha : 0 ≤ a) (hb : 0 ≤ b) (ha2 : a ≤ 18446744073709551615) (hb2 : b ≤ 18446744073709551615) :
    Calls Tryd.prog 72 #[.int .u64 a, .int .u64 b] w fun e w' => e = .returned (.int .u64 (Nat.gcd a.toNat b.toNat)) ∧ ∃ n, w' = w.drewN n := by
  go_enter Tryd.func72, Tryd.ntmps72
  go_wp2
  go_loopw [0, 1] (fun u v wr => ∃ x y n : Nat, u = .int .u64 x ∧ v = .int .u64 y ∧ Nat.gcd x y = Nat.gcd a.toNat b.toNat ∧ x ≤ 18446744073709551615 ∧ y ≤ 18446744073709551615 ∧ wr = w.drewN n) (fun _ v _ => (intOf v).toNat)
  case atStart => exact ⟨a.toNat, b.toNat, 0, by rw [Int.toNat_of_nonneg ha], by rw [Int.toNat_of_nonneg hb], rfl, by omega, by omega, rfl⟩
  case round =>
    obtain ⟨x, y, n, rfl, rfl, hg, hx, hy, rfl⟩ := hrel
    have HG := Lib.hid hg
    clear hg ha hb ha2 hb2
    by_cases h : 0 < y
    · have hmod : (x : Int) % (y : Int) = ((x % y : Nat) : Int) := by simp
      have hlt : x % y < y := Nat.mod_lt _ h
      have HM := Lib.hid hmod
      have HS := Lib.hid (gcd_step x y h)
      have hne : ((y : Int) != 0) = true := bne_t (by omega)
      clear hmod
      go_wp2
      go_quiet (fail)
      go_wp2
      go_roundw
      case rel => exact ⟨y, x % y, _, rfl, by rw [HM.out], by rw [HS.out]; exact HG.out, by omega, by omega, World.drewN_drewN _ _ _⟩
      case measure => rw [HM.out]; simp [intOf]; omega
    · obtain rfl : y = 0 := by omega
      have HE : Hid (Nat.gcd a.toNat b.toNat = x) := by
        show _ = _
        rw [← HG.out, Nat.gcd_zero_right]
      go_wp2
      go_ret
      exact ⟨ret_int (by rw [HE.out]), n, rfl⟩

theorem magnitude_any (n : Int) (w : World) (h1 : -9223372036854775808 ≤ n) (h2 : n ≤ 9223372036854775807) :
    Calls Tryd.prog 83 #[.int .i64 n] w fun e w' => e = .returned (.int .u64 n.natAbs) ∧ w = w' := by
  by_cases h : n < 0
  · have hu : IntKind.u64.wrap (-(IntKind.u64.wrap n)) = (n.natAbs : Int) := by simp only [IntKind.wrap_u64]; omega
    go_enter Tryd.func83, Tryd.ntmps83
    go_wp2
    go_ret
    exact ⟨rfl, rfl⟩
  · have HE : Hid ((n.natAbs : Int) = n) := by show _ = _; omega
    go_enter Tryd.func83, Tryd.ntmps83
    go_wp2
    go_ret
    exact ⟨ret_int (by rw [HE.out]), rfl⟩
end Go.Proofs.YtnpigefbdadjfaaDoor
