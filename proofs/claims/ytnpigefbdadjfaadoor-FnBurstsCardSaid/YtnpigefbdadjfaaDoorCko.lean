/- CheckOrder: the model's and the program's. -/
import Derived.Test.YtnpigefbdadjfaaDoorCkj
namespace Go.Proofs.YtnpigefbdadjfaaDoor
open Go Go.RowKit
set_option linter.unusedVariables false

set_option maxRecDepth 100000 in
set_option maxHeartbeats 1000000 in
theorem order_impl (p : Int) (w : World) (a : Addr) (hv : Ev 0 a w) :
    Calls Tryd.prog 53 #[.int .i64 p] w fun e w' => e = .returned (.tuple #[.int .i64 (orV p), .bool (orOk p)]) ∧ Below w.heap.size w w' := by
  cases g0 : ckB p
  · have hb : orOk p = false := by unfold orOk; rw [g0]; rfl
    rw [or_no hb, hb]
    have HC := Lib.hid (dividerOf_no p a w hv g0)
    clear g0 hb hv
    go_enter Tryd.func53, Tryd.ntmps53
    go_wp2_with fail
    refine HC.out.mono ?_; rintro e w1 ⟨rfl, hb1⟩
    have B1 := Lib.hid hb1
    clear hb1
    go_wp2_with fail
    go_ret2
    exact ⟨rfl, B1.out⟩
  · have HC := Lib.hid (dividerOf_yes p w g0)
    obtain ⟨P, rfl, p1, p2, hg, p4, p5⟩ := ck_nat g0
    rw [Int.toNat_natCast] at HC
    have hP0 : (0 : Int) ≤ (P : Int) := by omega
    by_cases ho : P % 2 = 1
    · have hb : orOk (P : Int) = true := by unfold orOk; rw [g0, decide_eq_true (show (P : Int) % 2 = 1 by omega)]; rfl
      rw [or_yes hb, hb, Int.toNat_natCast]
      obtain ⟨o1, o2, o3, o4⟩ := ord_facts hg ho
      have HTX := Lib.hid (fun b T r x W hD hx => timesX_any b P (Nat.log2 P) T r x W hD hg p4 hx)
      have HLT := Lib.hid (fun n => rd_lt hg n)
      have HSU := Lib.hid (fun k => rd_pow_succ P (Nat.log2 P) k)
      have h2 : 2 ^ Nat.log2 P ≤ 65536 := Nat.pow_le_pow_right (by omega) p4
      have H1 : Hid (rd P (Nat.log2 P) (2 ^ 0) = 1) := rd_one hg
      have hpo : ((P : Int) % 2 == 0) = false := by
        have : (P : Int) % 2 = 1 := by omega
        rw [this]; rfl
      obtain ⟨D, hD⟩ : ∃ D, D = Nat.log2 P := ⟨_, rfl⟩
      rw [← hD] at HC HTX HLT HSU h2 H1 o1 o2 o3 o4 ⊢
      obtain ⟨M, hM⟩ : ∃ M, M = ordN P D := ⟨_, rfl⟩
      rw [← hM] at o1 o2 o3 o4 ⊢
      have HO3 := Lib.hid o3
      have HO4 := Lib.hid o4
      have hMb : M ≤ 65536 := by omega
      clear g0 hb ho hg p1 p2 p4 p5 h2 hD hM o3 o4 o2 hv
      go_enter Tryd.func53, Tryd.ntmps53
      go_wp2_with fail
      refine HC.out.mono ?_; rintro e w1 ⟨b, rfl, hlo, hd1, hb1⟩
      have B1 := Lib.hid hb1
      have D1 := Lib.hid hd1
      clear hb1 hd1
      go_wp2_with fail
      have HT0 := Lib.hid (HTX.out _ _ _ (rd P D (2 ^ 0)) w1 D1.out (HLT.out _))
      rw [← HSU.out, H1.out] at HT0
      refine HT0.out.mono ?_; rintro e w' ⟨rfl, rfl⟩
      clear HT0
      go_wp2_with fail
      go_loopw [6, 7] (fun i r wr => ∃ k : Nat, 1 ≤ k ∧ k ≤ M ∧ i = .int .i64 k ∧ r = .int .u64 ((rd P D (2 ^ k) : Nat) : Int) ∧ wr = w1) (fun i _ _ => M - (intOf i).toNat)
      case atStart => exact ⟨1, Nat.le_refl _, o1, rfl, rfl, rfl⟩
      case round =>
        obtain ⟨k, k1, k2, rfl, rfl, rfl⟩ := hrel
        by_cases hk : k = M
        · subst hk
          rw [HO3.out]
          clear HO4 HTX HSU HLT
          go_wp2_with fail
          go_ret2
          exact ⟨rfl, B1.out⟩
        · have hne := HO4.out k k1 (by omega)
          have HT := Lib.hid (HTX.out _ _ _ (rd P D (2 ^ k)) wr D1.out (HLT.out _))
          rw [← HSU.out] at HT
          obtain ⟨R1, hR1⟩ : ∃ R1, R1 = rd P D (2 ^ (k + 1)) := ⟨_, rfl⟩
          rw [← hR1] at HT
          have HR := Lib.hid hR1
          clear hR1 HO3 HO4 HTX HLT HSU H1
          generalize rd P D (2 ^ k) = R0 at *
          have hn : ((R0 : Int) == 1) = false := by simpa using (show ¬ (R0 : Int) = 1 by omega)
          have hn2 : ((R0 : Int) != 1) = true := by simp only [bne, hn]; rfl
          clear hne
          go_wp2_with fail
          refine HT.out.mono ?_; rintro e w' ⟨rfl, rfl⟩
          go_wp2_with fail
          go_roundw
          case rel => exact ⟨k + 1, by omega, by omega, by go_num, by rw [HR.out], trivial⟩
          case measure => simp [intOf]; omega
    · have hb : orOk (P : Int) = false := by unfold orOk; rw [decide_eq_false (show ¬ (P : Int) % 2 = 1 by omega)]; simp
      rw [or_no hb, hb]
      have hpo : ((P : Int) % 2 == 0) = true := by
        have : (P : Int) % 2 = 0 := by omega
        rw [this]; rfl
      clear g0 hb ho hg p1 p2 p4 p5 hv
      go_enter Tryd.func53, Tryd.ntmps53
      go_wp2_with fail
      refine HC.out.mono ?_; rintro e w1 ⟨b, rfl, hlo, hd1, hb1⟩
      have B1 := Lib.hid hb1
      clear hb1 hd1 hlo
      go_wp2_with fail
      go_ret2
      exact ⟨rfl, B1.out⟩
end Go.Proofs.YtnpigefbdadjfaaDoor
