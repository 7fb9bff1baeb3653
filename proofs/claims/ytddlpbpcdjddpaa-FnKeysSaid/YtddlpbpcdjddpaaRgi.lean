/- The program's ring of bits: sum, state, push. -/
import Derived.Test.YtddlpbpcdjddpaaOcg
import Derived.Test.YtddlpbpcdjddpaaBk
import Derived.Test.YtddlpbpcdjddpaaBwb
import Derived.BigRegion
import Derived.WalkSmall
namespace Go.Proofs.Ytddlpbpcdjddpaa
open Go Go.RowKit
set_option linter.unusedVariables false
/-- The cells of a ring. -/
def rgV (x t : Nat) (wd n : Int) : List Value := [.int .u16 x, .int .u16 t, .int .i64 wd, .int .i64 n]
theorem rg_all {W : World} {k : Nat} {x t : Nat} {wd n : Int} (h : Bk W k (rgV x t wd n)) : W.cell? ⟨k, 0, none⟩ = some (.int .u16 x) ∧ W.cell? ⟨k, 1, none⟩ = some (.int .u16 t) ∧ W.cell? ⟨k, 2, none⟩ = some (.int .i64 wd) ∧ W.cell? ⟨k, 3, none⟩ = some (.int .i64 n) := ⟨h.c 0 _ rfl, h.c 1 _ rfl, h.c 2 _ rfl, h.c 3 _ rfl⟩
theorem quiet_any {P : Program} {f : FuncId} {args : Array Value} {w : World} {q : Nat} {v : Value}
    (h : Calls P f args (w.drewN q) fun e w' => e = .returned v ∧ w.drewN q = w') : Calls P f args (w.drewN q) fun e w'' => e = .returned v ∧ ∃ m, w'' = w.drewN m :=
  h.mono fun _ _ ⟨he, hm⟩ => ⟨he, q, hm.symm⟩

set_option maxRecDepth 100000 in
theorem sum_any (x t n : Nat) (wd : Int) (hx : x < 65536) (ht : t < 65536) (hn : n < 16) (w : World) :
    Calls Try.prog 67 #[.agg #[.int .u16 x, .int .u16 t, .int .i64 wd, .int .i64 n]] w fun e w' => e = .returned (.int .u8 (pop (x &&& rot t n) % 2 : Nat)) ∧ Below w.heap.size w w' := by
  have hB : Below w.heap.size w (w.alloc (.cells #[.int .u16 x, .int .u16 t, .int .i64 wd, .int .i64 n] 67)) := (Below.refl _ _).alloc (Nat.le_refl _) _
  have HBK : Hid (Bk (w.alloc (.cells #[.int .u16 x, .int .u16 t, .int .i64 wd, .int .i64 n] 67)) w.heap.size (rgV x t wd n)) := Bk.new w (rgV x t wd n) 67 _ rfl
  have HB := Lib.hid hB
  have HR := Lib.hid (fun W => rot16 t n ht W)
  rw [show ((n : Int) % 16).toNat = n from by omega] at HR
  have hr := rot_lt (n := n) ht
  generalize rot t n = r at *
  have hand := u16_and x r hx
  have hm : x &&& r < 65536 := Nat.lt_of_le_of_lt Nat.and_le_left hx
  generalize x &&& r = m at *
  have HO := Lib.hid (fun W => oc16 m hm W)
  obtain ⟨q0, q1, q2, q3⟩ := rg_all HBK.out
  generalize pop m = p at *
  clear hB hx ht hm hr
  go_enter Try.func67, Try.ntmps67
  go_wp2_with fail
  go_quiet ((go_at_call 79; exact quiet_any (HR.out _)))
  go_wp2_with fail
  refine (HO.out _).mono ?_; rintro e w' ⟨rfl, q, rfl⟩
  have HR2 := Lib.hid (show (p : Int) % 2 = ((p % 2 : Nat) : Int) from by omega)
  go_wp2_with fail
  go_ret
  exact ⟨ret_int (by first | exact HR2.out | omega), below_drewN HB.out _⟩

theorem u16_andNot (a b : Nat) (ha : a < 65536) (hb : b < 65536) : bits .andNot .u16 (a : Int) (b : Int) = ((a &&& (65535 - b) : Nat) : Int) := by
  have key : (BitVec.ofInt 16 (a : Int) &&& ~~~ BitVec.ofInt 16 (b : Int)).toNat = a &&& (65535 - b) := by
    rw [BitVec.toNat_and, BitVec.toNat_not, BitVec.ofInt_natCast, BitVec.ofInt_natCast, BitVec.toNat_ofNat, BitVec.toNat_ofNat, Nat.mod_eq_of_lt (show a < 2 ^ 16 from ha), Nat.mod_eq_of_lt (show b < 2 ^ 16 from hb)]
  show IntKind.u16.wrap ((BitVec.ofInt 16 (a : Int) &&& ~~~ BitVec.ofInt 16 (b : Int)).toNat : Nat) = _
  rw [key]
  have : a &&& (65535 - b) ≤ a := Nat.and_le_left
  simp [IntKind.wrap, IntKind.signed, IntKind.bits]
  omega
theorem push_key (x n b : Nat) (hx : x < 65536) (hn : n < 16) (hb : b ≤ 1) : bits .or .u16 (bits .andNot .u16 (x : Int) (IntKind.u16.wrap (2 ^ (n : Int).toNat))) (IntKind.u16.wrap ((b : Int) * 2 ^ (n : Int).toNat)) = ((rgS x n b : Nat) : Int) := by
  rw [show (n : Int).toNat = n from by omega]
  have hp : 2 ^ n ≤ 32768 := Nat.pow_le_pow_right (by omega) (by omega : n ≤ 15)
  have e1 : IntKind.u16.wrap (2 ^ n) = ((2 ^ n : Nat) : Int) := by
    have : (2 : Int) ^ n = ((2 ^ n : Nat) : Int) := by push_cast; rfl
    rw [this]
    generalize 2 ^ n = m at *
    simp [IntKind.wrap, IntKind.signed, IntKind.bits]
    omega
  rw [e1, u16_andNot _ _ hx (by omega)]
  have hle : x &&& (65535 - 2 ^ n) < 65536 := Nat.lt_of_le_of_lt Nat.and_le_left hx
  unfold rgS
  rw [Nat.mod_eq_of_lt hn]
  have hb2 : b = 0 ∨ b = 1 := by omega
  rcases hb2 with rfl | rfl
  · rw [if_pos rfl]
    have : IntKind.u16.wrap (((0 : Nat) : Int) * 2 ^ n) = ((0 : Nat) : Int) := by
      rw [show ((0 : Nat) : Int) = 0 from rfl, Int.zero_mul]; rfl
    rw [this, u16_or _ _ hle (by omega), Nat.or_zero]
  · rw [if_neg (by decide)]
    have : IntKind.u16.wrap (((1 : Nat) : Int) * 2 ^ n) = ((2 ^ n : Nat) : Int) := by
      rw [show ((1 : Nat) : Int) = 1 from rfl, Int.one_mul, e1]
    rw [this, u16_or _ _ hle (by omega)]
    congr 1
    apply Nat.eq_of_testBit_eq
    intro p
    rw [Nat.testBit_or, Nat.testBit_or, Nat.testBit_and]
    by_cases hp16 : p < 16
    · have := mask_bit ⟨n, hn⟩ ⟨p, hp16⟩
      simp only [ne_eq, Fin.mk.injEq] at this
      rw [this, Nat.testBit_two_pow]
      by_cases e : n = p
      · simp [e]
      · simp [e]
    · have : x.testBit p = false := Nat.testBit_lt_two_pow (Nat.lt_of_lt_of_le hx (show 2 ^ 16 ≤ 2 ^ p from Nat.pow_le_pow_right (by decide) (by omega)))
      rw [this]; rfl

theorem gbb {w w1 : World} (row : Option Nat) (hb : Below w.heap.size w w1) : w.grownBy w1 row := ⟨hb.os, hb.tape, hb.output, hb.size, fun k hk _ => hb.block k hk⟩
theorem gbs {w w1 : World} {b : Nat} (h : w.grownBy w1 (some b)) (j : Nat) (x : Value) : w.grownBy (w1.setCell ⟨b, j, none⟩ x) (some b) :=
  ⟨h.os, h.tape, h.output, by have := h.size; simp [World.setCell]; exact this, fun k hk hne => (Below.heap_setCell _ _ _ _ (by intro e; exact hne (by rw [e]))).trans (h.block k hk hne)⟩
theorem gbd {w w1 : World} {row : Option Nat} (h : w.grownBy w1 row) : w.grownBy w1.drew row := ⟨h.os, h.tape, h.output, h.size, h.block⟩
theorem Blk.dr {w : World} {b : Nat} {T : TypeId} {cs : List Value} (h : Blk w b T cs) : Blk w.drew b T cs := h
theorem rgb_all {W : World} {k : Nat} {x t : Nat} {wd n : Int} (h : Blk W k 67 (rgV x t wd n)) : W.cell? ⟨k, 0, none⟩ = some (.int .u16 x) ∧ W.cell? ⟨k, 1, none⟩ = some (.int .u16 t) ∧ W.cell? ⟨k, 2, none⟩ = some (.int .i64 wd) ∧ W.cell? ⟨k, 3, none⟩ = some (.int .i64 n) :=
  ⟨h.cell 0 _ rfl, h.cell 1 _ rfl, h.cell 2 _ rfl, h.cell 3 _ rfl⟩
set_option maxRecDepth 100000 in
theorem push_any (x t n b k : Nat) (wd : Int) (hx : x < 65536) (hn : n < 16) (hb : b ≤ 1) (w : World) (h : Blk w k 67 (rgV x t wd n)) :
    Calls Try.prog 77 #[.pointer (some ⟨k, 0, none⟩), .int .u8 b] w fun e w' => e = .returned (.tuple #[]) ∧ Blk w' k 67 (rgV (rgS x n b) t wd ((n + 1) % 16 : Nat)) ∧ w.grownBy w' (some k) := by
  have HK := Lib.hid (push_key x n b hx hn hb)
  have HM := Lib.hid (show ((n : Int) + 1) % 16 = (((n + 1) % 16 : Nat) : Int) from by omega)
  have HN := Lib.hid (show (n : Int).toNat = n from by omega)
  have HBB := Lib.hid h
  obtain ⟨q0, q1, q2, q3⟩ := rgb_all h
  have f0 := h.frozen 0
  have f3 := h.frozen 3
  have hw : IntKind.i64.wrap ((n : Int) + 1) = (n : Int) + 1 := IntWalk.i64_in _ (by omega)
  clear h
  go_enter Try.func77, Try.ntmps77
  go_wp2_with fail
  go_region
  all_goals go_wp2_with fail
  go_end0
  have hk := HK.out
  rw [HN.out] at hk
  rw [hk, HM.out]
  refine ⟨rfl, Blk.dr ((HBB.out.set 0 _).set 3 _), gbd (gbs (gbs (gbb _ (Below.refl _ _)) 0 _) 3 _)⟩
end Go.Proofs.Ytddlpbpcdjddpaa
