/- ShortestMissed: the table of bits.TrailingZeros64; the program's and the model's. -/
import Derived.Test.YtnpigefbdadjfaaDoorOrP
import Derived.Test.YtnpigefbdadjfaaDoorDvP
import Derived.Test.YtnpigefbdadjfaaDoorIck
import Derived.Test.YtnpigefbdadjfaaDoorErv
import Derived.Test.YtnpigefbdadjfaaDoorShelfT
import Derived.Lib.TrailingZeros
import Derived.Laws.BitsAllLaws
namespace Go.Proofs.YtnpigefbdadjfaaDoor
open Go Go.RowKit
set_option linter.unusedVariables false

/-- The table of bits.TrailingZeros64. -/
structure TzT (w : World) : Prop where
  cell : ∀ j, j < 64 → w.cell? ⟨2, j, none⟩ = some (.int .u8 ((Lib.deBruijn64tab.getD j 0 : Nat) : Int))
theorem TzT.lt {w : World} (h : TzT w) : 2 < w.heap.size := by
  rcases Nat.lt_or_ge 2 w.heap.size with h' | h'
  · exact h'
  · have := h.cell 0 (by omega)
    simp [World.cell?, Array.getElem?_eq_none h'] at this
theorem TzT.keep {w w' : World} (h : TzT w) (hb : Below w.heap.size w w') : TzT w' := ⟨fun j hj => by rw [hb.cell (p := ⟨_, j, none⟩) h.lt]; exact h.cell j hj⟩
theorem tz_key (x a : Nat) (hx : x < 18446744073709551616) (hx0 : x ≠ 0) (hlow : x &&& (18446744073709551616 - x) = a) :
    IntKind.u64.wrap (bits BinOp.and IntKind.u64 (x : Int) (IntKind.u64.wrap (-(x : Int))) * 285870213051353865) / 288230376151711744 = ((a * 285870213051353865 % 18446744073709551616 / 288230376151711744 : Nat) : Int) := by
  have e1 : IntKind.u64.wrap (-(x : Int)) = ((18446744073709551616 - x : Nat) : Int) := by rw [IntKind.wrap_u64]; omega
  rw [e1, u64_and_nat x _ hx (by omega), hlow, IntKind.wrap_u64]
  omega
theorem tz_core (x k idx : Nat) (w : World) (hx0 : ((x : Int) == 0) = false)
    (key : IntKind.u64.wrap (bits BinOp.and IntKind.u64 (x : Int) (IntKind.u64.wrap (-(x : Int))) * 285870213051353865) / 288230376151711744 = (idx : Int))
    (hi : idx < 64) (hk : k < 64) (hcell : w.cell? ⟨2, idx, none⟩ = some (.int .u8 (k : Int))) :
    Calls Tryd.prog 105 #[.int .u64 (x : Int)] w fun e w' => e = .returned (.int .i64 (k : Int)) ∧ w' = w := by
  have hi0 : (0 : Int) ≤ (idx : Int) := by omega
  have hi1 : (idx : Int) < 64 := by omega
  have ek : IntKind.i64.wrap (k : Int) = (k : Int) := IntWalk.i64_in _ (by omega)
  go_enter Tryd.func105, Tryd.ntmps105
  go_wp2_with (simp only [key])
  go_ret
  exact ⟨rfl, rfl⟩
theorem tz_any (x : Nat) (hx : x < 18446744073709551616) (hx0 : x ≠ 0) (w : World) (hT : TzT w) :
    Calls Tryd.prog 105 #[.int .u64 (x : Int)] w fun e w' => e = .returned (.int .i64 ((Lib.ctz 64 x : Nat) : Int)) ∧ w' = w := by
  obtain ⟨hlow, hk⟩ := Lib.lowest_bit 64 x hx0 hx
  obtain ⟨hi, htab⟩ := Lib.deBruijn64_at _ hk
  have hcell := hT.cell _ hi
  rw [htab] at hcell
  exact tz_core x _ _ w (by simp; omega) (tz_key x _ hx hx0 hlow) hi hk hcell
theorem ctz_parts (q t : Nat) (hq : q % 2 = 1) (hx : q * 2 ^ t < 18446744073709551616) : Lib.ctz 64 (q * 2 ^ t) = t := by
  have hp : 0 < q * 2 ^ t := Nat.mul_pos (by omega) (Nat.two_pow_pos t)
  obtain ⟨m, hm, hk⟩ := Lib.ctzFrom_spec 64 (q * 2 ^ t) hp hx
  have e : Lib.ctz 64 (q * 2 ^ t) = Lib.ctzFrom 64 (q * 2 ^ t) := by unfold Lib.ctz; rw [if_neg (by omega)]
  rw [e]
  generalize Lib.ctzFrom 64 (q * 2 ^ t) = k at *
  rcases Nat.lt_trichotomy k t with h | h | h
  · exfalso
    obtain ⟨d, rfl⟩ : ∃ d, t = k + (d + 1) := ⟨t - k - 1, by omega⟩
    have h2 : 2 ^ k * (q * 2 ^ d * 2) = 2 ^ k * (2 * m + 1) := by
      rw [← hm, Nat.pow_add, Nat.pow_succ]; ac_rfl
    have := Nat.eq_of_mul_eq_mul_left (Nat.two_pow_pos k) h2
    omega
  · exact h
  · exfalso
    obtain ⟨d, rfl⟩ : ∃ d, k = t + (d + 1) := ⟨k - t - 1, by omega⟩
    have h2 : 2 ^ t * q = 2 ^ t * (2 ^ d * 2 * (2 * m + 1)) := by
      rw [Nat.mul_comm (2 ^ t) q, hm, Nat.pow_add, Nat.pow_succ]; ac_rfl
    have := Nat.eq_of_mul_eq_mul_left (Nat.two_pow_pos t) h2
    have h3 : 2 ^ d * 2 * (2 * m + 1) = 2 * (2 ^ d * (2 * m + 1)) := by rw [Nat.mul_comm (2 ^ d) 2, Nat.mul_assoc]
    omega
/-- What ShortestMissed answers. -/
def smV (p : Int) : Int := if ckB p then ((smN p.toNat : Nat) : Int) else 0
theorem sm_no {p : Int} (h : ckB p = false) : smV p = 0 := by unfold smV; rw [h]; rfl
theorem sm_yes {p : Int} (h : ckB p = true) : smV p = ((smN p.toNat : Nat) : Int) := by unfold smV; rw [h]; rfl
theorem shortest_impl (p : Int) (w : World) (hT : TzT w) :
    Calls Tryd.prog 52 #[.int .i64 p] w fun e w' => e = .returned (.tuple #[.int .i64 (smV p), .bool (ckB p)]) ∧ Below w.heap.size w w' := by
  have HC := Lib.hid (fun W => isCheck_impl p W)
  cases g0 : ckB p
  · rw [sm_no g0]
    rw [g0] at HC
    clear g0 hT
    go_enter Tryd.func52, Tryd.ntmps52
    go_wp2_with fail
    refine (HC.out _).mono ?_; rintro e w1 ⟨rfl, hb1⟩
    have B1 := Lib.hid hb1
    clear hb1
    go_wp2_with fail
    go_ret2
    exact ⟨rfl, B1.out⟩
  · rw [sm_yes g0]
    rw [g0] at HC
    have hp := of_decide_eq_true g0
    obtain ⟨P, rfl⟩ := Int.eq_ofNat_of_zero_le (show 0 ≤ p by omega)
    rw [Int.toNat_natCast]
    obtain ⟨t, q, hq, hP⟩ := odd_part P (by omega)
    obtain ⟨s1, s2⟩ := sm_parts t q hq
    have hc := ctz_parts q t hq (by rw [← hP]; omega)
    rw [← hP] at s1 s2 hc
    have hpw : IntKind.u64.wrap (P : Int) = (P : Int) := by rw [IntKind.wrap_u64]; omega
    have HL := Lib.hid (fun W => Tryd.bits_Len64 (P : Int) W (by omega) (by omega))
    rw [Int.toNat_natCast, bitLen_log (by omega) (by omega), s2] at HL
    have HZ := Lib.hid (fun W h => tz_any P (by omega) (by omega) W h)
    rw [hc] at HZ
    rw [s1]
    have hl : Nat.log2 q + t ≤ 16 := by
      rw [← s2]
      rcases Nat.lt_or_ge (Nat.log2 P) 17 with h1 | h1
      · omega
      · have := Nat.pow_le_pow_right (show 0 < 2 by omega) h1
        have := Nat.log2_self_le (show P ≠ 0 by omega)
        omega
    generalize Nat.log2 q = l at *
    have HT := Lib.hid hT
    have ed : ((l + t + 1 : Nat) : Int) - (t : Int) = ((l + 1 : Nat) : Int) := by omega
    obtain ⟨A, hA⟩ : ∃ A, A = l + t + 1 := ⟨_, rfl⟩
    obtain ⟨B, hB⟩ : ∃ B, B = l + 1 := ⟨_, rfl⟩
    rw [← hA, ← hB] at ed
    rw [← hA] at HL
    rw [← hB]
    have hA1 : (A : Int) ≤ 17 := by omega
    have hA0 : (0 : Int) ≤ (A : Int) := by omega
    have ht0 : (0 : Int) ≤ (t : Int) := by omega
    have ht1 : (t : Int) ≤ 17 := by omega
    have eB : IntKind.i64.wrap (B : Int) = (B : Int) := IntWalk.i64_in _ (by omega)
    clear g0 hp hq hP s1 s2 hc hl hT hA hB
    go_enter Tryd.func52, Tryd.ntmps52
    go_wp2_with fail
    refine (HC.out _).mono ?_; rintro e w1 ⟨rfl, hb1⟩
    have B1 := Lib.hid hb1
    have T1 := Lib.hid (HT.out.keep hb1)
    clear hb1
    go_wp2_with fail
    refine (HL.out _).mono ?_; rintro e w2 ⟨rfl, rfl⟩
    go_wp2_with fail
    refine (HZ.out _ T1.out).mono ?_; rintro e w3 ⟨rfl, rfl⟩
    go_wp2_with fail
    go_ret2
    exact ⟨rfl, B1.out⟩
theorem log_down8 {x : Nat} (h : 1 < x) : Nat.log2 x = Nat.log2 (x / 2) + 1 := by rw [Nat.log2_def, if_pos (by omega)]
end Go.Proofs.YtnpigefbdadjfaaDoor
