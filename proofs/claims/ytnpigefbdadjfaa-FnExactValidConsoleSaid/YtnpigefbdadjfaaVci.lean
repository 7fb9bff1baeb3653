/- The program's ValidConsole. -/
import Derived.Test.YtnpigefbdadjfaaVcP
import Derived.Test.YtnpigefbdadjfaaCns
namespace Go.Proofs.Ytnpigefbdadjfaa
open Go Go.RowKit
set_option linter.unusedVariables false

set_option maxRecDepth 100000 in
set_option maxHeartbeats 4000000 in
theorem validC_impl (w : World) (vn vl : Value) (ns ls : List ByteArray) (hn : RdS w vn ns) (hl : RdS w vl ls) (sn : ∀ s ∈ ns, s.size ≤ maxLen) (sl : ∀ s ∈ ls, s.size ≤ maxLen) :
    Calls Try.prog 30 #[.agg #[vn, vl]] w fun e w' => e = .returned (.bool (vcB ns ls)) ∧ Below w.heap.size w w' := by
  obtain ⟨W3, hW3⟩ : ∃ W3, W3 = w.alloc (.cells #[vn, vl] 49) := ⟨_, rfl⟩
  have hbw : Below w.heap.size w W3 := by rw [hW3]; exact (Below.refl _ _).alloc (Nat.le_refl _) _
  have ba : Bk W3 w.heap.size (cnV vn vl) := by rw [hW3]; exact Bk.new w (cnV vn vl) _ _ rfl
  have HB := Lib.hid hbw
  have BA := Lib.hid ba
  have HN := Lib.hid (hn.keep hbw)
  have HL := Lib.hid (hl.keep hbw)
  have HW := Lib.hid hW3
  have c0 := ba.c 0 _ rfl
  have c1 := ba.c 1 _ rfl
  have HV : Hid (vcB ns ls = (decide (ns.length ≤ 6) && (decide (ns.length = ls.length) && (incS ns && (!ns.any nmX && !ls.any btX))))) := rfl
  have C1 : Hid (∀ W, RdS W vn ns → ns.length ≤ 6 → _) := fun W h h6 => isIncreasingS W vn ns h (by omega)
  have C2 : Hid (∀ W, RdS W vn ns → ns.length ≤ 6 → _) := fun W h h6 => contains_isNoName W vn ns h (by omega) sn
  have C3 : Hid (∀ W, RdS W vl ls → ls.length ≤ 6 → _) := fun W h h6 => contains_areNoBits W vl ls h (by omega) sl
  have lm := hn.len
  have lp := hl.len
  unfold maxLen at lm lp
  obtain ⟨A1, k1, rfl, -⟩ := rds_at hn
  obtain ⟨A2, k2, rfl, -⟩ := rds_at hl
  clear hn hl sn sl hbw ba hW3
  generalize ns.any nmX = b2 at *
  generalize ls.any btX = b3 at *
  generalize incS ns = b1 at *
  generalize vcB ns ls = R at *
  generalize ns.length = n1 at *
  generalize ls.length = n2 at *
  by_cases h6 : n1 ≤ 6
  rotate_left
  · have hR : R = false := by rw [HV.out, decide_eq_false h6]; rfl
    subst hR
    have g : ¬ (n1 : Int) ≤ (6 : Int) := by omega
    have g' : ¬ n1 ≤ 6 := by omega
    clear h6
    go_enter Try.func30, Try.ntmps30
    go_wp2_with fail
    rw [← HW.out]
    go_wp2_with fail
    go_ret
    exact ⟨rfl, HB.out⟩
  have g : (n1 : Int) ≤ (6 : Int) := by omega
  by_cases he : n1 = n2
  rotate_left
  · have hR : R = false := by rw [HV.out, decide_eq_false he]; simp
    subst hR
    have g2 : ((n1 : Int) == (n2 : Int)) = false := by simpa using (show ¬ (n1 : Int) = n2 by omega)
    have g2' : ¬ n1 = n2 := he
    clear he
    go_enter Try.func30, Try.ntmps30
    go_wp2_with fail
    rw [← HW.out]
    go_wp2_with fail
    go_ret
    exact ⟨rfl, HB.out⟩
  subst he
  have hR : Hid (R = (b1 && (!b2 && !b3))) := by show _ = _; rw [HV.out, decide_eq_true h6, decide_eq_true (rfl : n1 = n1)]; rfl
  have D1 := Lib.hid (C1.out W3 HN.out h6)
  clear HV C1
  go_enter Try.func30, Try.ntmps30
  go_wp2_with fail
  rw [← HW.out]
  go_wp2_with fail
  refine D1.out.mono ?_; rintro e w1 ⟨rfl, hb1⟩
  have HB1 := Lib.hid (HB.out.trans (hb1.mono HB.out.size))
  have BA1 := Lib.hid (BA.out.keep hb1)
  have HN1 := Lib.hid (HN.out.keep hb1)
  have HL1 := Lib.hid (HL.out.keep hb1)
  clear hb1 c0 c1 D1 HB BA HN HL
  have c0 := BA1.out.c 0 _ rfl
  have c1 := BA1.out.c 1 _ rfl
  have D2 := Lib.hid (C2.out w1 HN1.out h6)
  clear C2
  cases b1
  · go_wp2_with fail
    go_ret
    exact ⟨ret_bool (by rw [hR.out]; rfl), HB1.out⟩
  go_wp2_with fail
  refine D2.out.mono ?_; rintro e w2 ⟨rfl, hb2⟩
  have HB2 := Lib.hid (HB1.out.trans (hb2.mono HB1.out.size))
  have BA2 := Lib.hid (BA1.out.keep hb2)
  have HL2 := Lib.hid (HL1.out.keep hb2)
  clear hb2 c0 c1 D2 HB1 BA1 HN1 HL1
  have c0 := BA2.out.c 0 _ rfl
  have c1 := BA2.out.c 1 _ rfl
  have D3 := Lib.hid (C3.out w2 HL2.out h6)
  clear C3
  cases b2
  · go_wp2_with fail
    refine D3.out.mono ?_; rintro e w3 ⟨rfl, hb3⟩
    have HB3 := Lib.hid (HB2.out.trans (hb3.mono HB2.out.size))
    clear hb3 c0 c1 D3 HB2 BA2 HL2
    go_wp2_with fail
    go_ret
    exact ⟨ret_bool (by rw [hR.out]; rfl), HB3.out⟩
  · go_wp2_with fail
    go_ret
    exact ⟨ret_bool (by rw [hR.out]; rfl), HB2.out⟩
end Go.Proofs.Ytnpigefbdadjfaa
