/- The walk of the law FnExactEdgesOf. -/
import Derived.Test.YtjmaapbodacggaaEdg
import Derived.Test.YtjmaapbodacggaaRd
namespace Go.Proofs.Ytjmaapbodacggaa
open Go Go.RowKit
set_option linter.unusedVariables false

set_option maxHeartbeats 1600000 in
set_option maxRecDepth 100000 in
theorem law_FnExactEdgesOf (a0 : ByteArray) (w0 : a0.size ≤ maxLen) (w : World)  :
    Calls Try.prog 3 #[.string a0] w fun e w' => e = .returned (.bool true) ∧ Below w.heap.size w w' := by
  have s0 : a0.size ≤ 9223372036854775807 := by have := w0; unfold maxLen at this; exact this
  by_cases h0 : a0.size ≤ 1048576
  rotate_left
  · clear w0
    go_enter Try.func3, Try.ntmps3
    go_wp2_with fail
    go_ret
    exact ⟨rfl, Below.refl _ _⟩
  have HS := Lib.hid (fun (W : World) => edges_spec a0 W w0)
  have HI := Lib.hid (fun (W : World) => edges_impl a0 W w0)
  have hl0 : (egV a0.data.toList).length ≤ 2000000 := Nat.le_trans (egV_len _) (by decide)
  clear w0
  generalize hz0 : egV a0.data.toList = y0 at HS HI hl0
  clear hz0
  generalize hz1 : isB a0.data.toList = y1 at HS HI
  clear hz1
  cases y1
  all_goals
    have m1 : ¬ ((1 + (y0.length : Int) : Int) < 0) := by omega
    have m2 : ((1 + (y0.length : Int) : Int) != (1 + (y0.length : Int) : Int)) = false := by simp
    go_enter Try.func3, Try.ntmps3
    have B0 := Lib.hid (Below.refl w.heap.size w)
    go_wp2_with fail
    refine (HS.out _).mono ?_; rintro e u1 ⟨sv0, rfl, ho1_S0, hb1⟩
    have lo_S0 := Lib.hid (B0.out.size)
    have B1 := Lib.hid (B0.out.trans (hb1.mono B0.out.size))
    have fS0_1 := Lib.hid (OwnIn.of ho1_S0)
    clear hb1 ho1_S0 B0
    go_wp2_with fail
    refine (HI.out _).mono ?_; rintro e u2 ⟨gv0, rfl, ho2_G0, hb2⟩
    have d_S0_G0 := Lib.hid (fS0_1.out.2.2)
    have lo_G0 := Lib.hid (B1.out.size)
    have fS0_2 := Lib.hid (fS0_1.out.keep hb2)
    have B2 := Lib.hid (B1.out.trans (hb2.mono B1.out.size))
    have fG0_2 := Lib.hid (OwnIn.of ho2_G0)
    clear hb2 ho2_G0 fS0_1 B1
    go_wp2_with fail
    refine (eqInt64S_rd _ _ _ y0 fG0_2.out.rd fS0_2.out.rd).mono ?_; rintro e u3 ⟨rfl, q3, rfl⟩
    have fS0_3 := Lib.hid (fS0_2.out.drewN q3)
    have fG0_3 := Lib.hid (fG0_2.out.drewN q3)
    have B3 := Lib.hid (below_drewN B2.out q3)
    clear fS0_2 fG0_2 B2
    go_wp2_with fail
    refine (markInt64S_any _ _ _ (y0) (1) (by omega) (by omega) (by omega) fG0_3.out.1).mono ?_; rintro e u4 ⟨rfl, hm4, hg4, hz4⟩
    have fS0_4 := Lib.hid (fS0_3.out.other fG0_3.out hg4 hz4 (Or.inl d_S0_G0.out))
    have fG0_4 := Lib.hid (fG0_3.out.marked hm4 hz4)
    have B4 := Lib.hid (OwnIn.belowMark B3.out fG0_3.out hg4 lo_G0.out B3.out.size)
    clear hm4 hg4 hz4 fS0_3 fG0_3 B3
    go_wp2_with fail
    refine (heldInt64S_any _ _ _ y0.length (1) (by omega) (by omega) (by omega) fG0_4.out.1).mono ?_; rintro e u5 ⟨rfl, rfl⟩
    go_wp2_with fail
    refine (HI.out _).mono ?_; rintro e u6 ⟨hv0, rfl, ho6_H0, hb6⟩
    have d_S0_H0 := Lib.hid (fS0_4.out.2.2)
    have d_G0_H0 := Lib.hid (fG0_4.out.2.2)
    have lo_H0 := Lib.hid (B4.out.size)
    have fS0_6 := Lib.hid (fS0_4.out.keep hb6)
    have fG0_6 := Lib.hid (fG0_4.out.keep hb6)
    have B6 := Lib.hid (B4.out.trans (hb6.mono B4.out.size))
    have fH0_6 := Lib.hid (OwnIn.of ho6_H0)
    clear hb6 ho6_H0 fS0_4 fG0_4 B4
    go_wp2_with fail
    refine (eqInt64S_rd _ _ _ y0 fH0_6.out.rd fS0_6.out.rd).mono ?_; rintro e u7 ⟨rfl, q7, rfl⟩
    have fS0_7 := Lib.hid (fS0_6.out.drewN q7)
    have fG0_7 := Lib.hid (fG0_6.out.drewN q7)
    have fH0_7 := Lib.hid (fH0_6.out.drewN q7)
    have B7 := Lib.hid (below_drewN B6.out q7)
    clear fS0_6 fG0_6 fH0_6 B6
    go_wp2_with fail
    refine (heldInt64S_any _ _ _ y0.length (1) (by omega) (by omega) (by omega) fG0_7.out.1).mono ?_; rintro e u8 ⟨rfl, rfl⟩
    go_wp2_with fail
    go_ret
    exact ⟨rfl, B7.out⟩
end Go.Proofs.Ytjmaapbodacggaa
