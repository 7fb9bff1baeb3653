/- The program's state of a ring: which bits it tells. -/
import Derived.Test.YtddlpbpcdjddpaaRgi
import Derived.Test.YtddlpbpcdjddpaaKpp
import Derived.Test.YtddlpbpcdjddpaaScS
namespace Go.Proofs.Ytddlpbpcdjddpaa
open Go Go.RowKit
set_option linter.unusedVariables false
/-- The last bits of a ring, as a number: x its word, n the place of the next bit. -/
def stv (x n w : Nat) : Nat := rot x ((16 - n) % 16) / 2 ^ (16 - w)
theorem stv_bit {q : List Nat} {w j : Nat} (hw : w ≤ 16) (hq : w ≤ q.length) (hj : j < w) : (stv (rg q) (q.length % 16) w).testBit j = decide (q.getD (q.length - w + j) 0 ≠ 0) := by
  unfold stv
  rw [← Nat.shiftRight_eq_div_pow, Nat.testBit_shiftRight, rot_bit _ _ (rg_lt q) (by omega)]
  have := rg_bit _ q rfl (q.length - w + j) (by omega) (by omega)
  rw [← this]
  congr 1
  omega
theorem stv_lt (q : List Nat) (n w : Nat) (hw : w ≤ 16) : stv (rg q) n w < 2 ^ w := by
  unfold stv
  have h1 := rot_lt (n := (16 - n) % 16) (rg_lt q)
  rw [Nat.div_lt_iff_lt_mul (Nat.pow_pos (by omega)), ← Nat.pow_add, show w + (16 - w) = 16 from by omega]
  exact h1
theorem stv_eq {q1 q2 : List Nat} {w : Nat} (b1 : bitsN q1) (b2 : bitsN q2) (hw : w ≤ 16) (h1 : w ≤ q1.length) (h2 : w ≤ q2.length) : stv (rg q1) (q1.length % 16) w = stv (rg q2) (q2.length % 16) w ↔ q1.drop (q1.length - w) = q2.drop (q2.length - w) := by
  constructor
  · intro h
    refine List.ext_getElem (by rw [List.length_drop, List.length_drop]; omega) fun j hj1 hj2 => ?_
    rw [List.length_drop] at hj1
    have t1 := stv_bit hw h1 (show j < w by omega)
    have t2 := stv_bit hw h2 (show j < w by omega)
    rw [h, t2] at t1
    rw [List.getElem_drop, List.getElem_drop]
    rw [List.getD, List.getElem?_eq_getElem (by omega), List.getD, List.getElem?_eq_getElem (by omega)] at t1
    simp only [Option.getD_some] at t1
    have c1 := b1 _ (List.getElem_mem (show q1.length - w + j < q1.length by omega))
    have c2 := b2 _ (List.getElem_mem (show q2.length - w + j < q2.length by omega))
    have t1 := decide_eq_decide.1 t1
    omega
  · intro h
    apply Nat.eq_of_testBit_eq
    intro j
    by_cases hj : j < w
    · rw [stv_bit hw h1 hj, stv_bit hw h2 hj]
      have e : (q1.drop (q1.length - w))[j]? = (q2.drop (q2.length - w))[j]? := by rw [h]
      rw [List.getElem?_drop, List.getElem?_drop] at e
      rw [List.getD, List.getD, e]
    · rw [Nat.testBit_lt_two_pow (Nat.lt_of_lt_of_le (stv_lt q1 _ w hw) (Nat.pow_le_pow_right (by omega) (by omega))), Nat.testBit_lt_two_pow (Nat.lt_of_lt_of_le (stv_lt q2 _ w hw) (Nat.pow_le_pow_right (by omega) (by omega)))]

set_option maxRecDepth 100000 in
theorem state_any (x t n w0 : Nat) (hx : x < 65536) (hn : n < 16) (hw0 : w0 ≤ 16) (w : World) :
    Calls Try.prog 54 #[.agg #[.int .u16 x, .int .u16 t, .int .i64 w0, .int .i64 n]] w fun e w' => e = .returned (.int .u16 (stv x n w0 : Nat)) ∧ Below w.heap.size w w' := by
  have hB : Below w.heap.size w (w.alloc (.cells #[.int .u16 x, .int .u16 t, .int .i64 w0, .int .i64 n] 67)) := (Below.refl _ _).alloc (Nat.le_refl _) _
  have HBK : Hid (Bk (w.alloc (.cells #[.int .u16 x, .int .u16 t, .int .i64 w0, .int .i64 n] 67)) w.heap.size (rgV x t w0 n)) := Bk.new w (rgV x t w0 n) 67 _ rfl
  have HB := Lib.hid hB
  have HR := Lib.hid (fun W => rot16 x (-(n : Int)) hx W)
  rw [show (-(n : Int) % 16).toNat = (16 - n) % 16 from by omega] at HR
  have HE : Hid ((rot x ((16 - n) % 16) : Int) / 2 ^ ((16 : Int) - (w0 : Int)).toNat = ((stv x n w0 : Nat) : Int)) := by
    show _ = _
    unfold stv
    rw [show ((16 : Int) - (w0 : Int)).toNat = 16 - w0 from by omega]
    push_cast; rfl
  generalize rot x ((16 - n) % 16) = r at *
  generalize stv x n w0 = S at *
  obtain ⟨q0, q1, q2, q3⟩ := rg_all HBK.out
  have hneg : IntKind.i64.wrap (-(n : Int)) = -(n : Int) := IntWalk.i64_in _ (by omega)
  have hsub : IntKind.i64.wrap ((16 : Int) - (w0 : Int)) = (16 : Int) - (w0 : Int) := IntWalk.i64_in _ (by omega)
  have hle : (w0 : Int) ≤ 16 := by omega
  have hle2 : (16 : Int) - (w0 : Int) ≤ 16 := by omega
  have hle3 : (0 : Int) ≤ (16 : Int) - (w0 : Int) := by omega
  clear hB
  go_enter Try.func54, Try.ntmps54
  go_wp2_with fail
  go_quiet ((go_at_call 79; exact quiet_any (HR.out _)))
  go_wp2_with fail
  go_ret
  exact ⟨ret_int (by first | exact HE.out | (have := HE.out; simpa using this)), below_drewN HB.out _⟩
end Go.Proofs.Ytddlpbpcdjddpaa
