/- Contracts of l01Digits and of the model's and the program's BitsOf. -/
import Derived.Test.YtnpigefbdadjfaaOwn
namespace Go.Proofs.Ytnpigefbdadjfaa
open Go Go.RowKit
set_option linter.unusedVariables false

/-- The digit of a number at a place, as a byte. -/
def dg (n : Int) (i : Nat) : UInt8 := UInt8.ofNat (48 + (n / 2 ^ i % 2).toNat)
def digs (n : Int) (width k : Nat) : List UInt8 := (List.range k).map fun j => dg n (width - 1 - j)
theorem digs_succ (n : Int) (width k : Nat) : digs n width (k + 1) = digs n width k ++ [dg n (width - 1 - k)] := by simp [digs, List.range_succ]
theorem digs_length (n : Int) (width k : Nat) : (digs n width k).length = k := by simp [digs]
theorem dg_val (n : Int) (i : Nat) : ((dg n i).toNat : Int) = 48 + n / 2 ^ i % 2 := by
  have h1 : 0 ≤ n / 2 ^ i % 2 := Int.emod_nonneg _ (by decide)
  have h2 : n / 2 ^ i % 2 < 2 := Int.emod_lt_of_pos _ (by decide)
  unfold dg
  rw [UInt8.toNat_ofNat']
  omega
theorem i64_and1 (n : Int) : bits .and .i64 n 1 = n % 2 := by
  have h1 : (BitVec.ofInt 64 1).toNat = 2 ^ 1 - 1 := by decide
  have key : (BitVec.ofInt 64 n &&& BitVec.ofInt 64 1).toNat = (n % ((2 ^ 64 : Nat) : Int)).toNat % 2 ^ 1 := by
    rw [BitVec.toNat_and, BitVec.toNat_ofInt, h1, Nat.and_two_pow_sub_one_eq_mod]
  show IntKind.i64.wrap ((BitVec.ofInt 64 n &&& BitVec.ofInt 64 1).toNat : Nat) = n % 2
  rw [key, IntKind.wrap_i64]
  omega

/-- Whether a number has a width. -/
def bofOk (n width : Int) : Bool := decide (0 ≤ width ∧ width ≤ 60 ∧ 0 ≤ n ∧ n < 2 ^ width.toNat)

theorem two_pow_bd (k : Nat) (hk : k ≤ 60) : (1 : Int) ≤ 2 ^ k ∧ (2 : Int) ^ k ≤ 1152921504606846976 := by
  have h1 : 2 ^ k ≤ 2 ^ 60 := Nat.pow_le_pow_right (by decide) hk
  have h2 : 1 ≤ 2 ^ k := Nat.one_le_two_pow
  have h3 : (2 : Nat) ^ 60 = 1152921504606846976 := by rfl
  rw [h3] at h1
  have e : ((2 ^ k : Nat) : Int) = (2 : Int) ^ k := by rw [Int.natCast_pow]; rfl
  rw [← e]
  constructor <;> omega

/-- A row of zeros of which the first k are digits. -/
def part (n : Int) (width k : Nat) : List Value := byteVals (digs n width k) ++ List.replicate (width - k) (.int .u8 0)
theorem part_zero (n : Int) (width : Nat) : part n width 0 = List.replicate width (.int .u8 0) := by simp [part, digs, byteVals]
theorem part_full (n : Int) (width : Nat) : part n width width = byteVals (digs n width width) := by simp [part]
theorem part_set (n : Int) (width k : Nat) (hk : k < width) : (part n width k).set k (.int .u8 (48 + n / 2 ^ (width - 1 - k) % 2)) = part n width (k + 1) := by
  unfold part
  rw [List.set_append, if_neg (by rw [byteVals_length, digs_length]; omega), byteVals_length, digs_length, Nat.sub_self, digs_succ, ← byteVals_snoc, dg_val]
  obtain ⟨m, hm⟩ : ∃ m, width - k = m + 1 := ⟨width - k - 1, by omega⟩
  rw [hm, show width - (k + 1) = m from by omega, List.replicate_succ]
  simp

set_option maxRecDepth 100000 in
theorem bitsOf_yes_impl (n : Int) (k : Nat) (w : World) (hk : k ≤ 60) (h0 : 0 ≤ n) (h1 : n < 2 ^ k) :
    Calls Try.prog 10 #[.int .i64 n, .int .i64 k] w fun e w' => e = .returned (.tuple #[.string ⟨(digs n k k).toArray⟩, .bool true]) ∧ Below w.heap.size w w' := by
  obtain ⟨i0, hi, hz0, hz1, hz2⟩ := info_parts Try.infoByte
  obtain ⟨hp1, hp2⟩ := two_pow_bd k hk
  have h2 : n ≤ 2 ^ k - 1 := by omega
  go_enter Try.func10, Try.ntmps10
  go_wp2_with (first | (at_make; refine wpList_make_full _ rfl _ _ 22 rfl w.heap.size 5 i0 (.int .u8 0) 1 Try.underlying22 hi hz0 hz1 _ _ _ _ k rfl rfl rfl rfl ?b2 ?b3 (Nat.le_refl _) ?_) | go_in)
  case b2 => rw [hz2]; omega
  case b3 => unfold maxLen; omega
  intro w1 hown hgrow
  have hb1 : Below w.heap.size w w1 := (Below.refl _ _).grown hgrow (Nat.le_refl _) (by simp)
  rw [toList_madeCells_one, ← part_zero n k] at hown
  clear hgrow
  go_wp2
  go_loopw [7, 22] (fun _ i wr => ∃ j : Nat, j ≤ k ∧ i = .int .i64 j ∧ wr.ownsRow w.heap.size 5 1 (.slice (some ⟨w.heap.size, 0, none⟩) k k) k (part n k j) ∧ Below w.heap.size w wr) (fun _ i _ => k - (intOf i).toNat)
  case atStart => exact ⟨0, Nat.zero_le _, rfl, hown, hb1⟩
  case round =>
    obtain ⟨j, hj, rfl, hown1, hb⟩ := hrel
    clear hown hb1
    by_cases hlt : j < k
    · have ha := i64_and1 (n / 2 ^ (k - 1 - j))
      have hq0 : 0 ≤ n / 2 ^ (k - 1 - j) % 2 := Int.emod_nonneg _ (by decide)
      have hq1 : n / 2 ^ (k - 1 - j) % 2 ≤ 1 := by omega
      have hfr := hown1.frozenAt j
      have hcl := hown1.cellAt j (by omega)
      obtain ⟨u, hu⟩ : ∃ u, (part n k j)[j]? = some u := ⟨_, List.getElem?_eq_getElem (by simp [part, byteVals_length, digs_length]; omega)⟩
      rw [hu] at hcl
      have hst := (hown1.stored j (.int .u8 (48 + n / 2 ^ (k - 1 - j) % 2))).1
      rw [part_set n k j hlt] at hst
      have HST := Lib.hid hst
      clear hst hu
      go_wp2
      go_roundw
      case rel => exact ⟨j + 1, by omega, by go_num, HST.out, hb.setCell (Nat.le_refl _) _⟩
      case measure => simp [intOf]; omega
    · obtain rfl : j = k := by omega
      rw [part_full] at hown1
      have hcv := conv_own hown1
      go_wp2
      go_ret2
      exact ⟨rfl, hb⟩

/-- Where a number has no such width. -/
theorem bitsOf_no_impl (n k : Int) (w : World) (h : ¬ (0 ≤ k ∧ k ≤ 60 ∧ 0 ≤ n ∧ n < 2 ^ k.toNat)) :
    Calls Try.prog 10 #[.int .i64 n, .int .i64 k] w fun e w' => e = .returned (.tuple #[.string ⟨#[]⟩, .bool false]) ∧ w = w' := by
  by_cases hk0 : 0 ≤ k
  · by_cases hk : k ≤ 60
    · obtain ⟨k, rfl⟩ := Int.eq_ofNat_of_zero_le hk0
      obtain ⟨hp1, hp2⟩ := two_pow_bd k (by omega)
      rw [Int.toNat_natCast] at h
      by_cases hn : 0 ≤ n
      · have h2 : ¬ n ≤ 2 ^ k - 1 := by omega
        clear h
        go_enter Try.func10, Try.ntmps10
        go_wp2_with go_in
        go_ret2
        exact ⟨rfl, rfl⟩
      · clear h
        go_enter Try.func10, Try.ntmps10
        go_wp2_with go_in
        go_ret2
        exact ⟨rfl, rfl⟩
    · clear h
      go_enter Try.func10, Try.ntmps10
      go_wp2_with go_in
      go_ret2
      exact ⟨rfl, rfl⟩
  · clear h
    go_enter Try.func10, Try.ntmps10
    go_wp2_with go_in
    go_ret2
    exact ⟨rfl, rfl⟩
end Go.Proofs.Ytnpigefbdadjfaa
