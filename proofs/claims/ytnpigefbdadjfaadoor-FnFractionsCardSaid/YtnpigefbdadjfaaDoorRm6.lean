/- math/bits.Rem64; the program's wide numbers divided by words. -/
import Derived.Test.YtnpigefbdadjfaaDoorDv6
import Derived.Test.YtnpigefbdadjfaaDoorWide2
namespace Go.Proofs.YtnpigefbdadjfaaDoor
open Go Go.RowKit
set_option linter.unusedVariables false

theorem div_hi {H L d : Nat} (hd : 0 < d) : (H * 18446744073709551616 + L) / d = H / d * 18446744073709551616 + (H % d * 18446744073709551616 + L) / d ∧ (H * 18446744073709551616 + L) % d = (H % d * 18446744073709551616 + L) % d := by
  have e1 := Nat.div_add_mod H d
  have e : H * 18446744073709551616 + L = (H % d * 18446744073709551616 + L) + d * (H / d * 18446744073709551616) := by
    rw [← Nat.mul_assoc]
    have : H = d * (H / d) + H % d := e1.symm
    generalize d * (H / d) = x at *
    omega
  rw [e, Nat.add_mul_div_left _ _ hd, Nat.add_mul_mod_self_left]
  exact ⟨by omega, rfl⟩
set_option maxRecDepth 100000 in
theorem rem64_any (hi lo y : Nat) (w : World) (h0 : 0 < y) (h1 : hi < 18446744073709551616) (h2 : lo < 18446744073709551616) (h3 : y < 18446744073709551616) :
    Calls Tryd.prog 126 #[.int .u64 (hi : Int), .int .u64 (lo : Int), .int .u64 (y : Int)] w fun e w' => e = .returned (.int .u64 (((hi * 18446744073709551616 + lo) % y : Nat) : Int)) ∧ ∃ q, w' = w.drewN q := by
  have HD : Hid (∀ W, Calls Tryd.prog 128 #[.int .u64 ((hi % y : Nat) : Int), .int .u64 (lo : Int), .int .u64 (y : Int)] W fun e w' => e = .returned (.tuple #[.int .u64 (((hi % y * 18446744073709551616 + lo) / y : Nat) : Int), .int .u64 (((hi % y * 18446744073709551616 + lo) % y : Nat) : Int)]) ∧ ∃ q, w' = W.drewN q) := fun W => div64_any (hi % y) lo y W (Nat.mod_lt _ h0) h2 h3
  rw [(div_hi h0).2]
  have hy0 : ((y : Int) == 0) = false := by rw [beq_eq_false_iff_ne]; omega
  have hyp : (0 : Int) < (y : Int) := by omega
  have hh0 : (0 : Int) ≤ (hi : Int) := by omega
  have hm : (hi : Int) % (y : Int) = ((hi % y : Nat) : Int) := (Int.natCast_emod hi y).symm
  have hmb := Nat.mod_lt hi h0
  generalize (hi % y * 18446744073709551616 + lo) / y = Q at *
  generalize hR : (hi % y * 18446744073709551616 + lo) % y = R at *
  obtain ⟨M, hM⟩ : ∃ M : Nat, hi % y = M := ⟨_, rfl⟩
  rw [hM] at HD hm hmb
  clear hR hM
  have wm : IntKind.u64.wrap (M : Int) = (M : Int) := by simp only [IntKind.wrap_u64]; omega
  go_enter Tryd.func126, Tryd.ntmps126
  go_wp2_with fail
  try rw [hm]
  refine (HD.out _).mono ?_; rintro e w' ⟨rfl, q, rfl⟩
  go_wp2_with fail
  go_ret
  exact ⟨rfl, q, rfl⟩
theorem words_of (N : Nat) (h : N ≤ 100000000000000000000000000000000000000) : hi64 (N : Int) = ((N / 18446744073709551616 : Nat) : Int) ∧ lo64 (N : Int) = ((N % 18446744073709551616 : Nat) : Int) ∧ N / 18446744073709551616 < 18446744073709551616 := by
  unfold hi64 lo64
  refine ⟨?_, ?_, ?_⟩ <;> omega
set_option maxRecDepth 100000 in
theorem remainder_any (Z : Int) (d : Nat) (w : World) (hZ : Fits Z) (h0 : 0 < d) (h1 : d ≤ 1000000000000000000) :
    Calls Tryd.prog 75 #[.agg #[.int .u64 (hi64 Z), .int .u64 (lo64 Z)], .int .u64 (d : Int)] w fun e w' => e = .returned (.int .u64 ((Z.natAbs % d : Nat) : Int)) ∧ Below w.heap.size w w' := by
  have HS := Lib.hid (fun W => size_any Z W hZ)
  have hN : Z.natAbs ≤ 100000000000000000000000000000000000000 := by obtain ⟨z1, z2⟩ := hZ; omega
  obtain ⟨e1, e2, e3⟩ := words_of Z.natAbs hN
  rw [e1, e2] at HS
  have HR : Hid (∀ W, Calls Tryd.prog 126 #[.int .u64 ((Z.natAbs / 18446744073709551616 : Nat) : Int), .int .u64 ((Z.natAbs % 18446744073709551616 : Nat) : Int), .int .u64 (d : Int)] W fun e w' => e = .returned (.int .u64 ((Z.natAbs % d : Nat) : Int)) ∧ ∃ q, w' = W.drewN q) := by
    show ∀ W, _
    intro W
    have := rem64_any (Z.natAbs / 18446744073709551616) (Z.natAbs % 18446744073709551616) d W h0 e3 (Nat.mod_lt _ (by decide)) (by omega)
    rwa [show Z.natAbs / 18446744073709551616 * 18446744073709551616 + Z.natAbs % 18446744073709551616 = Z.natAbs by omega] at this
  clear e1 e2 e3 hN hZ
  generalize hH : ((Z.natAbs / 18446744073709551616 : Nat) : Int) = H at *
  generalize hL : ((Z.natAbs % 18446744073709551616 : Nat) : Int) = L at *
  generalize hR : ((Z.natAbs % d : Nat) : Int) = R at *
  clear hH hL hR
  generalize hi64 Z = zh at *
  generalize lo64 Z = zl at *
  obtain ⟨W0, hW0⟩ : ∃ W0, W0 = w.alloc (.cells #[.int .u64 zh, .int .u64 zl] 101) := ⟨_, rfl⟩
  have K0 : Hid (Below w.heap.size w W0) := by show Below _ _ _; rw [hW0]; exact (Below.refl _ _).alloc (Nat.le_refl _) _
  have F0 : Hid (FBox W0 w.heap.size (.int .u64 zh) (.int .u64 zl)) := by show FBox _ _ _ _; rw [hW0]; exact fbox_new w _ _ _
  have HW0 := Lib.hid hW0
  clear hW0
  obtain ⟨⟨q0, q1, -⟩, -, -⟩ := F0.out
  go_enter Tryd.func75, Tryd.ntmps75
  go_wp2_with fail
  rw [← HW0.out]
  go_wp2_with fail
  refine (HS.out _).mono ?_; rintro e w1 ⟨rfl, hb1⟩
  obtain ⟨W2, hW2⟩ : ∃ W2, W2 = w1.alloc (.cells #[.int .u64 H, .int .u64 L] 101) := ⟨_, rfl⟩
  have K2 : Hid (Below w.heap.size w W2) := by
    show Below _ _ _
    rw [hW2]
    exact (K0.out.trans (hb1.mono K0.out.size)).alloc (K0.out.trans (hb1.mono K0.out.size)).size _
  have F2 : Hid (FBox W2 w1.heap.size (.int .u64 H) (.int .u64 L)) := by show FBox _ _ _ _; rw [hW2]; exact fbox_new w1 _ _ _
  have HW2 := Lib.hid hW2
  clear hW2 hb1 q0 q1
  go_wp2_with fail
  rw [← HW2.out]
  refine (HR.out _).mono ?_; rintro e w3 ⟨rfl, q, rfl⟩
  go_wp2_with fail
  go_ret
  exact ⟨rfl, below_drewN K2.out q⟩
theorem quiet_draw {P : Program} {f : FuncId} {args : Array Value} {w : World} {n : Nat} {v : Value}
    (h : Calls P f args (w.drewN n) fun e w' => e = .returned v ∧ ∃ q, w' = (w.drewN n).drewN q) : Calls P f args (w.drewN n) fun e w'' => e = .returned v ∧ ∃ m, w'' = w.drewN m :=
  h.mono fun _ _ ⟨he, q, hm⟩ => ⟨he, n + q, by rw [hm, World.drewN_drewN]⟩
theorem quo_words {N d : Nat} (hd : 0 < d) (hN : N ≤ 100000000000000000000000000000000000000) :
    hi64 ((N / d : Nat) : Int) = ((N / 18446744073709551616 / d : Nat) : Int) ∧ lo64 ((N / d : Nat) : Int) = (((N / 18446744073709551616 % d * 18446744073709551616 + N % 18446744073709551616) / d : Nat) : Int) ∧ (N / 18446744073709551616 % d * 18446744073709551616 + N % 18446744073709551616) / d < 18446744073709551616 := by
  have h1 := (div_hi (H := N / 18446744073709551616) (L := N % 18446744073709551616) hd).1
  rw [show N / 18446744073709551616 * 18446744073709551616 + N % 18446744073709551616 = N by omega] at h1
  have h2 : (N / 18446744073709551616 % d * 18446744073709551616 + N % 18446744073709551616) / d < 18446744073709551616 := by
    rw [Nat.div_lt_iff_lt_mul hd]
    have := Nat.mod_lt (N / 18446744073709551616) hd
    have h3 : N % 18446744073709551616 < 18446744073709551616 := Nat.mod_lt _ (by decide)
    have : (N / 18446744073709551616 % d + 1) * 18446744073709551616 ≤ d * 18446744073709551616 := Nat.mul_le_mul_right _ this
    omega
  have h4 := Nat.div_le_self N d
  have key : ∀ A B n : Nat, n = A * 18446744073709551616 + B → B < 18446744073709551616 → n ≤ 100000000000000000000000000000000000000 → hi64 (n : Int) = (A : Int) ∧ lo64 (n : Int) = (B : Int) := by
    intro A B n h5 h6 h7
    unfold hi64 lo64
    constructor <;> omega
  obtain ⟨k1, k2⟩ := key _ _ _ h1 h2 (by omega)
  exact ⟨k1, k2, h2⟩
def ovV (Z : Int) (d : Nat) : Int := if Z < 0 then -((Z.natAbs / d : Nat) : Int) else ((Z.natAbs / d : Nat) : Int)
set_option maxRecDepth 100000 in
set_option maxHeartbeats 1000000 in
theorem over_any (Z : Int) (d : Nat) (w : World) (hZ : Fits Z) (h0 : 0 < d) (h1 : d ≤ 1000000000000000000) :
    Calls Tryd.prog 77 #[.agg #[.int .u64 (hi64 Z), .int .u64 (lo64 Z)], .int .u64 (d : Int)] w fun e w' => e = .returned (.agg #[.int .u64 (hi64 (ovV Z d)), .int .u64 (lo64 (ovV Z d))]) ∧ Below w.heap.size w w' := by
  have HS := Lib.hid (fun W => size_any Z W hZ)
  have HSG := Lib.hid (fun W => sign_any Z W hZ)
  have HOP := Lib.hid (fun W => opposite_any ((Z.natAbs / d : Nat) : Int) W)
  have hN : Z.natAbs ≤ 100000000000000000000000000000000000000 := by obtain ⟨z1, z2⟩ := hZ; omega
  obtain ⟨e1, e2, e3⟩ := words_of Z.natAbs hN
  obtain ⟨q1, q2, q3⟩ := quo_words (N := Z.natAbs) h0 hN
  rw [e1, e2] at HS
  rw [q1, q2] at HOP
  have HD : Hid (∀ W, Calls Tryd.prog 128 #[.int .u64 ((Z.natAbs / 18446744073709551616 % d : Nat) : Int), .int .u64 ((Z.natAbs % 18446744073709551616 : Nat) : Int), .int .u64 (d : Int)] W fun e w' => e = .returned (.tuple #[.int .u64 (((Z.natAbs / 18446744073709551616 % d * 18446744073709551616 + Z.natAbs % 18446744073709551616) / d : Nat) : Int), .int .u64 (((Z.natAbs / 18446744073709551616 % d * 18446744073709551616 + Z.natAbs % 18446744073709551616) % d : Nat) : Int)]) ∧ ∃ q, w' = W.drewN q) := fun W => div64_any _ _ d W (Nat.mod_lt _ h0) (Nat.mod_lt _ (by decide)) (by omega)
  have HV : Hid (if Z < 0 then hi64 (ovV Z d) = hi64 (-((Z.natAbs / d : Nat) : Int)) ∧ lo64 (ovV Z d) = lo64 (-((Z.natAbs / d : Nat) : Int)) else hi64 (ovV Z d) = ((Z.natAbs / 18446744073709551616 / d : Nat) : Int) ∧ lo64 (ovV Z d) = (((Z.natAbs / 18446744073709551616 % d * 18446744073709551616 + Z.natAbs % 18446744073709551616) / d : Nat) : Int)) := by
    show if _ then _ else _
    unfold ovV
    split
    · exact ⟨rfl, rfl⟩
    · exact ⟨q1, q2⟩
  have hd0 : ((d : Int) == 0) = false := by rw [beq_eq_false_iff_ne]; omega
  have hdp : (0 : Int) < (d : Int) := by omega
  obtain ⟨H, hH⟩ : ∃ H : Nat, Z.natAbs / 18446744073709551616 = H := ⟨_, rfl⟩
  obtain ⟨L, hL⟩ : ∃ L : Nat, Z.natAbs % 18446744073709551616 = L := ⟨_, rfl⟩
  rw [hH] at HS HD HV HOP q3 e3
  rw [hL] at HS HD HV HOP q3
  have hH0 : (0 : Int) ≤ (H : Int) := by omega
  have hm : (H : Int) % (d : Int) = ((H % d : Nat) : Int) := (Int.natCast_emod H d).symm
  have hq : (H : Int) / (d : Int) = ((H / d : Nat) : Int) := (Int.natCast_ediv H d).symm
  have hmb := Nat.mod_lt H h0
  have hqb := Nat.div_le_self H d
  obtain ⟨Q, hQ⟩ : ∃ x : Nat, (H % d * 18446744073709551616 + L) / d = x := ⟨_, rfl⟩
  obtain ⟨R, hR⟩ : ∃ x : Nat, (H % d * 18446744073709551616 + L) % d = x := ⟨_, rfl⟩
  rw [hQ] at HD HV HOP q3
  rw [hR] at HD
  clear hQ hR
  obtain ⟨M, hM⟩ : ∃ x : Nat, H % d = x := ⟨_, rfl⟩
  obtain ⟨HQ, hHQ⟩ : ∃ x : Nat, H / d = x := ⟨_, rfl⟩
  rw [hM] at HD hm hmb
  rw [hHQ] at HV HOP hq hqb
  clear hM hHQ
  have wm : IntKind.u64.wrap (M : Int) = (M : Int) := by simp only [IntKind.wrap_u64]; omega
  have wq : IntKind.u64.wrap (HQ : Int) = (HQ : Int) := by simp only [IntKind.wrap_u64]; omega
  clear hH hL q1 q2 e1 e2 hN hZ
  generalize hi64 (ovV Z d) = vh at *
  generalize lo64 (ovV Z d) = vl at *
  generalize hi64 (-((Z.natAbs / d : Nat) : Int)) = nh at *
  generalize lo64 (-((Z.natAbs / d : Nat) : Int)) = nl at *
  generalize hi64 Z = zh at *
  generalize lo64 Z = zl at *
  obtain ⟨W0, hW0⟩ : ∃ W0, W0 = (w.alloc (.cells #[.int .u64 zh, .int .u64 zl] 101)).alloc (.cells #[.int .u64 0, .int .u64 0] 101) := ⟨_, rfl⟩
  have K0 : Hid (Below w.heap.size w W0) := by show Below _ _ _; rw [hW0]; exact balloc (balloc (Below.refl w.heap.size w) _) _
  have F0 : Hid (FBox W0 w.heap.size (.int .u64 zh) (.int .u64 zl)) := by show FBox _ _ _ _; rw [hW0]; exact fbox_alloc (fbox_new w _ _ _) _
  have G0 : Hid (FBox W0 (w.heap.size + 1) (.int .u64 0) (.int .u64 0)) := by
    show FBox _ _ _ _
    rw [hW0]
    have := fbox_new (w.alloc (.cells #[.int .u64 zh, .int .u64 zl] 101)) (.int .u64 0) (.int .u64 0) 101
    simpa using this
  have HW0 := Lib.hid hW0
  clear hW0
  obtain ⟨⟨q0, q1, -⟩, -, -⟩ := F0.out
  go_enter Tryd.func77, Tryd.ntmps77
  go_wp2_with fail
  rw [← HW0.out]
  refine (HS.out _).mono ?_; rintro e w1 ⟨rfl, hb1⟩
  obtain ⟨W2, hW2⟩ : ∃ W2, W2 = w1.alloc (.cells #[.int .u64 (H : Int), .int .u64 (L : Int)] 101) := ⟨_, rfl⟩
  have K2 : Hid (Below w.heap.size w W2) := by
    show Below _ _ _
    rw [hW2]
    exact balloc (bnext K0.out hb1) _
  have F2 : Hid (FBox W2 w1.heap.size (.int .u64 (H : Int)) (.int .u64 (L : Int))) := by show FBox _ _ _ _; rw [hW2]; exact fbox_new w1 _ _ _
  have A2 : Hid (FBox W2 w.heap.size (.int .u64 zh) (.int .u64 zl)) := by show FBox _ _ _ _; rw [hW2]; exact fbox_alloc (fbox_keep F0.out hb1) _
  have G2 : Hid (FBox W2 (w.heap.size + 1) (.int .u64 0) (.int .u64 0)) := by show FBox _ _ _ _; rw [hW2]; exact fbox_alloc (fbox_keep G0.out hb1) _
  have HW2 := Lib.hid hW2
  clear hW2 hb1 q0 q1 F0 G0 K0
  obtain ⟨⟨q0, q1, -⟩, -, -⟩ := F2.out
  go_wp2_with fail
  rw [← HW2.out]
  go_quiet ((go_at_call 128; exact quiet_draw (HD.out _)))
  have kd : Below W2.heap.size W2 (W2.drewN nq) := below_drewN (Below.refl _ _) nq
  have K3 : Hid (Below w.heap.size w (W2.drewN nq)) := bnext K2.out kd
  have A3 : Hid (FBox (W2.drewN nq) w.heap.size (.int .u64 zh) (.int .u64 zl)) := fbox_keep A2.out kd
  have G3 : Hid (FBox (W2.drewN nq) (w.heap.size + 1) (.int .u64 0) (.int .u64 0)) := fbox_keep G2.out kd
  have F3 : Hid (FBox (W2.drewN nq) w1.heap.size (.int .u64 (H : Int)) (.int .u64 (L : Int))) := fbox_keep F2.out kd
  clear kd q0 q1 A2 G2 F2 K2
  generalize W2.drewN nq = W3 at *
  obtain ⟨⟨q0, q1, -⟩, -, -⟩ := F3.out
  obtain ⟨W4, hW4⟩ : ∃ W4, W4 = W3.alloc (.cells #[.int .u64 (HQ : Int), .int .u64 (Q : Int)] 101) := ⟨_, rfl⟩
  have K4 : Hid (Below w.heap.size w W4) := by show Below _ _ _; rw [hW4]; exact balloc K3.out _
  have A4 : Hid (FBox W4 w.heap.size (.int .u64 zh) (.int .u64 zl)) := by show FBox _ _ _ _; rw [hW4]; exact fbox_alloc A3.out _
  have G4 : Hid (FBox W4 (w.heap.size + 1) (.int .u64 0) (.int .u64 0)) := by show FBox _ _ _ _; rw [hW4]; exact fbox_alloc G3.out _
  have Q4 : Hid (FBox W4 W3.heap.size (.int .u64 (HQ : Int)) (.int .u64 (Q : Int))) := by show FBox _ _ _ _; rw [hW4]; exact fbox_new W3 _ _ _
  have HW4 := Lib.hid hW4
  obtain ⟨⟨a0, a1, -⟩, -, -⟩ := A4.out
  have a0' : (W3.alloc (.cells #[.int .u64 (HQ : Int), .int .u64 (Q : Int)] 101)).cell? ⟨w.heap.size, 0, none⟩ = some (.int .u64 zh) := by rw [← hW4]; exact a0
  have a1' : (W3.alloc (.cells #[.int .u64 (HQ : Int), .int .u64 (Q : Int)] 101)).cell? ⟨w.heap.size, 1, none⟩ = some (.int .u64 zl) := by rw [← hW4]; exact a1
  clear hW4
  go_wp2_with fail
  rw [← HW4.out]
  refine (HSG.out _).mono ?_; rintro e w5 ⟨rfl, hb5⟩
  have K5 := Lib.hid (bnext K4.out hb5)
  have G5 := Lib.hid (fbox_keep G4.out hb5)
  have Q5 := Lib.hid (fbox_keep Q4.out hb5)
  clear hb5 a0 a1 a0' a1' A4 G4 Q4 K4 q0 q1
  obtain ⟨⟨q0, q1, -⟩, -, -⟩ := Q5.out
  by_cases hn : Z < 0
  · have hs : sgn Z = -1 := if_pos hn
    rw [hs]
    have HE : Hid (vh = nh ∧ vl = nl) := by have := HV.out; rwa [if_pos hn] at this
    clear hs hn HV HSG
    go_wp2_with fail
    refine (HOP.out _).mono ?_; rintro e w6 ⟨rfl, hb6⟩
    have K6 := Lib.hid (bnext K5.out hb6)
    have G6 := Lib.hid (fbox_keep G5.out hb6)
    clear hb6 q0 q1
    obtain ⟨⟨g0, g1, -⟩, g2, g3⟩ := G6.out
    go_wp2_with fail
    refine bodyPost_ret (v := .agg #[.int .u64 nh, .int .u64 nl]) (by simp [results, Tryd.results77, go_sem, g0, g1]) rfl ⟨by rw [HE.out.1, HE.out.2], ?_⟩
    exact (K6.out.setCell (p := ⟨w.heap.size + 1, 0, none⟩) (by simp) _).setCell (p := ⟨w.heap.size + 1, 1, none⟩) (by simp) _
  · have hs : ¬ sgn Z < 0 := by unfold sgn; rw [if_neg hn]; split <;> decide
    have HE : Hid (vh = (HQ : Int) ∧ vl = (Q : Int)) := by have := HV.out; rwa [if_neg hn] at this
    have hs2 : decide (sgn Z < 0) = false := decide_eq_false hs
    generalize sgn Z = sz at *
    clear hn HV HSG
    obtain ⟨⟨g0, g1, -⟩, g2, g3⟩ := G5.out
    go_wp2_with fail
    refine bodyPost_ret (v := .agg #[.int .u64 (HQ : Int), .int .u64 (Q : Int)]) (by simp [results, Tryd.results77, go_sem, g0, g1]) rfl ⟨by rw [HE.out.1, HE.out.2], ?_⟩
    exact (K5.out.setCell (p := ⟨w.heap.size + 1, 0, none⟩) (by simp) _).setCell (p := ⟨w.heap.size + 1, 1, none⟩) (by simp) _
end Go.Proofs.YtnpigefbdadjfaaDoor
