/- The model's wide numbers: sums, differences, the bit by bit division. -/
import Derived.Test.YtnpigefbdadjfaaCmp
import Derived.Test.YtnpigefbdadjfaaBk
namespace Go.Proofs.Ytnpigefbdadjfaa
open Go Go.RowKit
set_option linter.unusedVariables false

theorem plus_words (X Y : Int) : IntKind.u64.wrap (lo64 X + lo64 Y) = lo64 (X + Y) ∧ (lo64 (X + Y) < lo64 X → IntKind.u64.wrap (IntKind.u64.wrap (hi64 X + hi64 Y) + 1) = hi64 (X + Y)) ∧ (¬ lo64 (X + Y) < lo64 X → IntKind.u64.wrap (hi64 X + hi64 Y) = hi64 (X + Y)) := by
  simp only [IntKind.wrap_u64]
  unfold lo64 hi64
  refine ⟨by omega, fun h => by omega, fun h => by omega⟩
theorem minus_words (X Y : Int) : IntKind.u64.wrap (lo64 X - lo64 Y) = lo64 (X - Y) ∧ (lo64 X < lo64 Y → IntKind.u64.wrap (IntKind.u64.wrap (hi64 X - hi64 Y) - 1) = hi64 (X - Y)) ∧ (¬ lo64 X < lo64 Y → IntKind.u64.wrap (hi64 X - hi64 Y) = hi64 (X - Y)) := by
  simp only [IntKind.wrap_u64]
  unfold lo64 hi64
  refine ⟨by omega, fun h => by omega, fun h => by omega⟩
set_option maxRecDepth 100000 in
set_option maxHeartbeats 1000000 in
theorem l01Plus_any (X Y : Int) (w : World) :
    Calls Try.prog 103 #[.agg #[.int .u64 (hi64 X), .int .u64 (lo64 X)], .agg #[.int .u64 (hi64 Y), .int .u64 (lo64 Y)]] w fun e w' => e = .returned (.agg #[.int .u64 (hi64 (X + Y)), .int .u64 (lo64 (X + Y))]) ∧ Below w.heap.size w w' := by
  obtain ⟨h1, h2, h3⟩ := plus_words X Y
  by_cases hc : lo64 (X + Y) < lo64 X
  · have h4 := h2 hc
    clear h2 h3
    generalize hi64 (X + Y) = H at *
    generalize lo64 (X + Y) = L at *
    generalize hi64 X = a at *
    generalize lo64 X = b at *
    generalize hi64 Y = c at *
    generalize lo64 Y = d at *
    go_enter Try.func103, Try.ntmps103
    go_wp2_with fail
    simp [bodyPost, results, Try.results103, go_sem]
    exact ((((Below.refl _ _).alloc (Nat.le_refl _) _).alloc (by simp) _).alloc (by simp; omega) _).alloc (by simp; omega) _
  · have h4 := h3 hc
    clear h2 h3
    generalize hi64 (X + Y) = H at *
    generalize lo64 (X + Y) = L at *
    generalize hi64 X = a at *
    generalize lo64 X = b at *
    generalize hi64 Y = c at *
    generalize lo64 Y = d at *
    go_enter Try.func103, Try.ntmps103
    go_wp2_with fail
    simp [bodyPost, results, Try.results103, go_sem]
    exact ((((Below.refl _ _).alloc (Nat.le_refl _) _).alloc (by simp) _).alloc (by simp; omega) _).alloc (by simp; omega) _
set_option maxRecDepth 100000 in
set_option maxHeartbeats 1000000 in
theorem l01Minus_any (X Y : Int) (w : World) :
    Calls Try.prog 105 #[.agg #[.int .u64 (hi64 X), .int .u64 (lo64 X)], .agg #[.int .u64 (hi64 Y), .int .u64 (lo64 Y)]] w fun e w' => e = .returned (.agg #[.int .u64 (hi64 (X - Y)), .int .u64 (lo64 (X - Y))]) ∧ Below w.heap.size w w' := by
  obtain ⟨h1, h2, h3⟩ := minus_words X Y
  by_cases hc : lo64 X < lo64 Y
  · have h4 := h2 hc
    clear h2 h3
    generalize hi64 (X - Y) = H at *
    generalize lo64 (X - Y) = L at *
    generalize hi64 X = a at *
    generalize lo64 X = b at *
    generalize hi64 Y = c at *
    generalize lo64 Y = d at *
    go_enter Try.func105, Try.ntmps105
    go_wp2_with fail
    simp [bodyPost, results, Try.results105, go_sem]
    exact ((((Below.refl _ _).alloc (Nat.le_refl _) _).alloc (by simp) _).alloc (by simp; omega) _).alloc (by simp; omega) _
  · have h4 := h3 hc
    clear h2 h3
    generalize hi64 (X - Y) = H at *
    generalize lo64 (X - Y) = L at *
    generalize hi64 X = a at *
    generalize lo64 X = b at *
    generalize hi64 Y = c at *
    generalize lo64 Y = d at *
    go_enter Try.func105, Try.ntmps105
    go_wp2_with fail
    simp [bodyPost, results, Try.results105, go_sem]
    exact ((((Below.refl _ _).alloc (Nat.le_refl _) _).alloc (by simp) _).alloc (by simp; omega) _).alloc (by simp; omega) _
/-- The value behind the first bits. -/
theorem half_step (N i : Nat) : N / 2 ^ i = 2 * (N / 2 ^ (i + 1)) + N / 2 ^ i % 2 := by
  have : N / 2 ^ (i + 1) = N / 2 ^ i / 2 := by rw [Nat.pow_succ, Nat.div_div_eq_div_mul]
  rw [this]; omega
theorem div_step (V b d : Nat) (hd : 0 < d) (hb : b ≤ 1) : ((2 * V + b) / d = 2 * (V / d) + (if d ≤ 2 * (V % d) + b then 1 else 0)) ∧ ((2 * V + b) % d = 2 * (V % d) + b - (if d ≤ 2 * (V % d) + b then d else 0)) := by
  have h1 := Nat.div_add_mod V d
  have h2 := Nat.mod_lt V hd
  generalize V / d = q at *
  generalize V % d = r at *
  have e : 2 * V + b = (2 * r + b) + d * (2 * q) := by rw [← h1, Nat.mul_add]; have := Nat.mul_left_comm 2 d q; omega
  rw [e, Nat.add_mul_div_left _ _ hd, Nat.add_mul_mod_self_left]
  split
  · rename_i h
    have e2 : 2 * r + b = (2 * r + b - d) + d * 1 := by omega
    constructor
    · rw [e2, Nat.add_mul_div_left _ _ hd, Nat.div_eq_of_lt (by omega)]; omega
    · conv => lhs; rw [e2]
      rw [Nat.add_mul_mod_self_left, Nat.mod_eq_of_lt (by omega)]
  · rename_i h
    constructor
    · rw [Nat.div_eq_of_lt (by omega)]; omega
    · rw [Nat.mod_eq_of_lt (by omega)]; omega
theorem hi_nat (N : Nat) : hi64 (N : Int) = ((N / 18446744073709551616 % 18446744073709551616 : Nat) : Int) := by unfold hi64; omega
theorem lo_nat (N : Nat) : lo64 (N : Int) = ((N % 18446744073709551616 : Nat) : Int) := by unfold lo64; omega
theorem pow_cast (e : Nat) : ((2 : Int) ^ e) = ((2 ^ e : Nat) : Int) := by simp
theorem and_one (x : Nat) (hx : x < 18446744073709551616) : bits .and .u64 (x : Int) 1 = ((x % 2 : Nat) : Int) := by
  have := bits_and_u64_nat x 1 hx (by decide)
  rw [Nat.and_one_is_mod] at this
  exact this
theorem bit_high (N k : Nat) (hN : N < 340282366920938463463374607431768211456) (hk : k < 64) : bits .and .u64 (hi64 (N : Int) / 2 ^ (127 - k - 64)) 1 = ((N / 2 ^ (127 - k) % 2 : Nat) : Int) := by
  have h1 : N / 18446744073709551616 % 18446744073709551616 / 2 ^ (127 - k - 64) < 18446744073709551616 := Nat.lt_of_le_of_lt (Nat.div_le_self _ _) (Nat.mod_lt _ (by decide))
  rw [hi_nat, pow_cast, ← Int.natCast_ediv, and_one _ h1]
  have e : N / 18446744073709551616 % 18446744073709551616 = N / 2 ^ 64 := by omega
  rw [e, Nat.div_div_eq_div_mul, ← Nat.pow_add, show 64 + (127 - k - 64) = 127 - k by omega]
theorem bit_low (N k : Nat) (hk : 64 ≤ k) (hk2 : k < 128) : bits .and .u64 (lo64 (N : Int) / 2 ^ ((127 - k) % 64)) 1 = ((N / 2 ^ (127 - k) % 2 : Nat) : Int) := by
  have h1 : N % 18446744073709551616 / 2 ^ ((127 - k) % 64) < 18446744073709551616 := Nat.lt_of_le_of_lt (Nat.div_le_self _ _) (Nat.mod_lt _ (by decide))
  rw [lo_nat, pow_cast, ← Int.natCast_ediv, and_one _ h1, Nat.mod_eq_of_lt (show 127 - k < 64 by omega)]
  obtain ⟨j, hj⟩ : ∃ j, 64 = 127 - k + (j + 1) := ⟨64 - (127 - k) - 1, by omega⟩
  generalize 127 - k = e at *
  rw [show (18446744073709551616 : Nat) = 2 ^ e * 2 ^ (j + 1) by rw [← Nat.pow_add, ← hj], Nat.mod_mul_right_div_self, Nat.pow_succ, Nat.mul_comm (2 ^ j) 2, Nat.mod_mul_right_mod]
theorem dbl_words (Q : Nat) (hQ : 2 * Q + 1 < 340282366920938463463374607431768211456) : bits .or .u64 (IntKind.u64.wrap (hi64 (Q : Int) * 2)) (lo64 (Q : Int) / 9223372036854775808) = hi64 ((2 * Q : Nat) : Int) ∧ hi64 ((2 * Q + 1 : Nat) : Int) = hi64 ((2 * Q : Nat) : Int) ∧ IntKind.u64.wrap (lo64 (Q : Int) * 2) = lo64 ((2 * Q : Nat) : Int) ∧ bits .or .u64 (lo64 ((2 * Q : Nat) : Int)) 1 = lo64 ((2 * Q + 1 : Nat) : Int) := by
  refine ⟨?_, by unfold hi64; omega, by simp only [IntKind.wrap_u64]; unfold lo64; omega, ?_⟩
  · have e1 : IntKind.u64.wrap (hi64 (Q : Int) * 2) = ((2 ^ 1 * (Q / 18446744073709551616) : Nat) : Int) := by simp only [IntKind.wrap_u64]; unfold hi64; omega
    have e2 : lo64 (Q : Int) / 9223372036854775808 = ((Q % 18446744073709551616 / 9223372036854775808 : Nat) : Int) := by unfold lo64; omega
    rw [e1, e2, bits_or_u64_nat _ _ (by omega) (by omega), ← Nat.two_pow_add_eq_or_of_lt (by omega)]
    unfold hi64; omega
  · have e1 : lo64 ((2 * Q : Nat) : Int) = ((2 ^ 1 * (Q % 9223372036854775808) : Nat) : Int) := by unfold lo64; omega
    have := bits_or_u64_nat (2 ^ 1 * (Q % 9223372036854775808)) 1 (by omega) (by decide)
    rw [e1]
    refine this.trans ?_
    rw [← Nat.two_pow_add_eq_or_of_lt (by decide)]
    unfold lo64; omega
set_option maxRecDepth 100000 in
set_option maxHeartbeats 4000000 in
theorem l01Split_any (N d : Nat) (w : World) (hN : N < 340282366920938463463374607431768211456) (hd0 : 0 < d) (hd : d ≤ 1000000000000000000) :
    Calls Try.prog 106 #[.agg #[.int .u64 (hi64 (N : Int)), .int .u64 (lo64 (N : Int))], .int .i64 (d : Int)] w fun e w' => e = .returned (.tuple #[.agg #[.int .u64 (hi64 ((N / d : Nat) : Int)), .int .u64 (lo64 ((N / d : Nat) : Int))], .int .i64 ((N % d : Nat) : Int)]) ∧ Below w.heap.size w w' := by
  obtain ⟨W0, hW0⟩ : ∃ W0, W0 = ((w.alloc (.cells #[.int .u64 (hi64 (N : Int)), .int .u64 (lo64 (N : Int))] 134)).alloc (.cells #[.int .u64 0, .int .u64 0] 134)).alloc (.cells #[.int .u64 0, .int .u64 0] 134) := ⟨_, rfl⟩
  have B0 : Hid (Below w.heap.size w W0) := by show Below _ _ _; rw [hW0]; exact (((Below.refl _ _).alloc (Nat.le_refl _) _).alloc (by simp) _).alloc (by simp; omega) _
  have XA : Hid (Bk W0 w.heap.size [.int .u64 (hi64 (N : Int)), .int .u64 (lo64 (N : Int))]) := by show Bk _ _ _; rw [hW0]; exact ((Bk.new w [.int .u64 (hi64 (N : Int)), .int .u64 (lo64 (N : Int))] _ _ rfl).alloc _).alloc _
  have XR : Hid (Bk W0 (w.heap.size + 1) [.int .u64 0, .int .u64 0]) := by show Bk _ _ _; rw [hW0]; exact (Bk.new _ [.int .u64 0, .int .u64 0] _ _ (by simp)).alloc _
  have XQ : Hid (Bk W0 (w.heap.size + 1 + 1) [.int .u64 0, .int .u64 0]) := by show Bk _ _ _; rw [hW0]; exact Bk.new _ [.int .u64 0, .int .u64 0] _ _ (by simp)
  have HW0 := Lib.hid hW0
  clear hW0
  go_enter Try.func106, Try.ntmps106
  go_wp2_with fail
  go_loopw [7, 8] (fun r i wr => ∃ k : Nat, k ≤ 128 ∧ i = .int .i64 (127 - (k : Int)) ∧ r = .int .u64 ((N / 2 ^ (128 - k) % d : Nat) : Int) ∧ Bk wr w.heap.size [.int .u64 (hi64 (N : Int)), .int .u64 (lo64 (N : Int))] ∧ Bk wr (w.heap.size + 1) [.int .u64 0, .int .u64 0] ∧ Bk wr (w.heap.size + 1 + 1) [.int .u64 (hi64 ((N / 2 ^ (128 - k) / d : Nat) : Int)), .int .u64 (lo64 ((N / 2 ^ (128 - k) / d : Nat) : Int))] ∧ Below w.heap.size w wr) (fun _ i _ => (intOf i + 1).toNat)
  case atStart =>
    rw [← HW0.out]
    have h0 : N / 2 ^ 128 = 0 := Nat.div_eq_of_lt hN
    refine ⟨0, by omega, rfl, by show _ = Value.int _ ((N / 2 ^ 128 % d : Nat) : Int); rw [h0]; simp, XA.out, XR.out, ?_, B0.out⟩
    show Bk _ _ [.int .u64 (hi64 ((N / 2 ^ 128 / d : Nat) : Int)), .int .u64 (lo64 ((N / 2 ^ 128 / d : Nat) : Int))]
    rw [h0, Nat.zero_div]; exact XQ.out
  case round =>
    obtain ⟨k, hk, rfl, rfl, ha, hr, hq, hb⟩ := hrel
    by_cases hlt : k < 128
    · have c0 := ha.c 0 _ rfl
      have c1 := ha.c 1 _ rfl
      have c2 := hq.c 0 _ rfl
      have c3 := hq.c 1 _ rfl
      have i0 : (0 : Int) ≤ 127 - (k : Int) := by omega
      have R2 : N / 2 ^ (128 - k) % d < d := Nat.mod_lt _ hd0
      obtain ⟨b, hb1, HS, HV⟩ : ∃ b : Nat, b ≤ 1 ∧ (∀ e, e + 1 = 128 - k → N / 2 ^ e % 2 = b) ∧ N / 2 ^ (128 - (k + 1)) = 2 * (N / 2 ^ (128 - k)) + b := by
        refine ⟨N / 2 ^ (127 - k) % 2, by omega, fun e he => by rw [show e = 127 - k by omega], ?_⟩
        have := half_step N (127 - k)
        rw [show 127 - k + 1 = 128 - k by omega] at this
        rw [show 128 - (k + 1) = 127 - k by omega]; exact this
      have HB1 : Hid (k < 64 → bits .and .u64 (hi64 (N : Int) / 2 ^ (127 - k - 64)) 1 = (b : Int)) := by
        intro h; rw [bit_high N k hN h, HS _ (by omega)]
      have HB2 : Hid (64 ≤ k → bits .and .u64 (lo64 (N : Int) / 2 ^ ((127 - k) % 64)) 1 = (b : Int)) := by
        intro h; rw [bit_low N k h hlt, HS _ (by omega)]
      have DS := div_step (N / 2 ^ (128 - k)) b d hd0 hb1
      have QB : 2 * (N / 2 ^ (128 - k) / d) + 1 < 340282366920938463463374607431768211456 := by
        have h1 : N / 2 ^ (128 - k) ≤ N / 2 ^ 1 := Nat.div_le_div_left (Nat.pow_le_pow_right (by decide) (by omega)) (by decide)
        have h2 := Nat.div_le_self (N / 2 ^ (128 - k)) d
        simp only [Nat.pow_one] at h1
        omega
      rw [← HV] at DS
      have KR : Hid _ := Lib.hid DS.2
      have KQ : Hid _ := Lib.hid DS.1
      clear DS HV HS
      have DW := dbl_words _ QB
      have DW1 : Hid _ := Lib.hid DW.1
      have DW2 : Hid _ := Lib.hid DW.2.1
      have DW3 : Hid _ := Lib.hid DW.2.2.1
      have DW4 : Hid _ := Lib.hid DW.2.2.2
      clear DW
      generalize hRe : N / 2 ^ (128 - k) % d = R at *
      generalize hQe : N / 2 ^ (128 - k) / d = Q at *
      generalize hHe : hi64 (Q : Int) = Hq at *
      generalize hLe : lo64 (Q : Int) = Lq at *
      have b2 : (0 : Int) ≤ R := by omega
      have b3 : (R : Int) ≤ 1000000000000000000 := by omega
      have f2 := hq.f 0 (by simp)
      have f3 := hq.f 1 (by simp)
      have r0 := hr.c 0 _ rfl
      have r1 := hr.c 1 _ rfl
      have q0 := hr.f 0 (by simp)
      have q1 := hr.f 1 (by simp)
      go_wp2_with fail
      case roundEnd =>
        rename_i h64 hle
        have HB := HB1.out (by omega)
        rw [HB] at hle
        have hge : d ≤ 2 * R + b := by simp only [IntKind.wrap_u64] at hle; omega
        have KR' := KR.out
        have KQ' := KQ.out
        rw [if_pos hge] at KR' KQ'
        rw [HB, DW1.out, DW3.out, DW4.out]
        refine ⟨⟨k + 1, by omega, by congr 1; omega, ?_, ((ha.far _ (by simp; omega) _).far _ (by simp; omega) _).far _ (by simp; omega) _, ((hr.far _ (by simp) _).far _ (by simp) _).far _ (by simp) _, ?_, ?_⟩, by simp [intOf]; omega⟩
        · rw [KR']; congr 1; simp only [IntKind.wrap_u64]; omega
        · rw [KQ', DW2.out]
          exact ((hq.set 0 (by simp) _).set 1 (by simp) _).set 1 (by simp) _
        · exact ((hb.setCell (by simp; omega) _).setCell (by simp; omega) _).setCell (by simp; omega) _
      case roundEnd =>
        rename_i h64 hle
        have HB := HB1.out (by omega)
        rw [HB] at hle
        have hge : ¬ d ≤ 2 * R + b := by simp only [IntKind.wrap_u64] at hle; omega
        have KR' := KR.out
        have KQ' := KQ.out
        rw [if_neg hge] at KR' KQ'
        rw [HB, DW1.out, DW3.out]
        refine ⟨⟨k + 1, by omega, by congr 1; omega, ?_, (ha.far _ (by simp; omega) _).far _ (by simp; omega) _, (hr.far _ (by simp) _).far _ (by simp) _, ?_, ?_⟩, by simp [intOf]; omega⟩
        · rw [KR']; congr 1; simp only [IntKind.wrap_u64]; omega
        · rw [KQ']
          exact (hq.set 0 (by simp) _).set 1 (by simp) _
        · exact (hb.setCell (by simp; omega) _).setCell (by simp; omega) _
      case roundEnd =>
        rename_i h64 hle
        have HB := HB2.out (by omega)
        rw [HB] at hle
        have hge : d ≤ 2 * R + b := by simp only [IntKind.wrap_u64] at hle; omega
        have KR' := KR.out
        have KQ' := KQ.out
        rw [if_pos hge] at KR' KQ'
        rw [HB, DW1.out, DW3.out, DW4.out]
        refine ⟨⟨k + 1, by omega, by congr 1; omega, ?_, ((ha.far _ (by simp; omega) _).far _ (by simp; omega) _).far _ (by simp; omega) _, ((hr.far _ (by simp) _).far _ (by simp) _).far _ (by simp) _, ?_, ?_⟩, by simp [intOf]; omega⟩
        · rw [KR']; congr 1; simp only [IntKind.wrap_u64]; omega
        · rw [KQ', DW2.out]
          exact ((hq.set 0 (by simp) _).set 1 (by simp) _).set 1 (by simp) _
        · exact ((hb.setCell (by simp; omega) _).setCell (by simp; omega) _).setCell (by simp; omega) _
      case roundEnd =>
        rename_i h64 hle
        have HB := HB2.out (by omega)
        rw [HB] at hle
        have hge : ¬ d ≤ 2 * R + b := by simp only [IntKind.wrap_u64] at hle; omega
        have KR' := KR.out
        have KQ' := KQ.out
        rw [if_neg hge] at KR' KQ'
        rw [HB, DW1.out, DW3.out]
        refine ⟨⟨k + 1, by omega, by congr 1; omega, ?_, (ha.far _ (by simp; omega) _).far _ (by simp; omega) _, (hr.far _ (by simp) _).far _ (by simp) _, ?_, ?_⟩, by simp [intOf]; omega⟩
        · rw [KR']; congr 1; simp only [IntKind.wrap_u64]; omega
        · rw [KQ']
          exact (hq.set 0 (by simp) _).set 1 (by simp) _
        · exact (hb.setCell (by simp; omega) _).setCell (by simp; omega) _
    · have hk8 : k = 128 := by omega
      subst hk8
      have e0 : 128 - 128 = 0 := rfl
      rw [e0, Nat.pow_zero, Nat.div_one] at *
      have R2 : N % d < d := Nat.mod_lt _ hd0
      have c2 := hq.c 0 _ rfl
      have c3 := hq.c 1 _ rfl
      have q0 := hr.f 0 (by simp)
      have q1 := hr.f 1 (by simp)
      have r0 := hr.c 0 _ rfl
      have r1 := hr.c 1 _ rfl
      generalize hRe : N % d = R at *
      generalize hHe : hi64 ((N / d : Nat) : Int) = Hq at *
      generalize hLe : lo64 ((N / d : Nat) : Int) = Lq at *
      have b2 : (0 : Int) ≤ R := by omega
      have b3 : (R : Int) ≤ 1000000000000000000 := by omega
      have hr2 := (hr.set 0 (by simp) (.int .u64 Hq)).set 1 (by simp) (.int .u64 Lq)
      have s0 := hr2.c 0 _ rfl
      have s1 := hr2.c 1 _ rfl
      go_wp2_with fail
      simp [bodyPost, results, Try.results106, go_sem, s0, s1]
      refine ⟨?_, ?_⟩
      · rw [← hHe, ← hLe]; simp
      · exact Below.setCell (p := ⟨w.heap.size + 1, 1, none⟩) (Below.setCell (p := ⟨w.heap.size + 1, 0, none⟩) hb (by simp) _) (by simp) _
end Go.Proofs.Ytnpigefbdadjfaa
