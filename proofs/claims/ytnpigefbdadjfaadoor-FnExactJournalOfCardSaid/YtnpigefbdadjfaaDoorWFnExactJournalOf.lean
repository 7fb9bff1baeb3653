/- The walk of the law FnExactJournalOf. -/
import Derived.Test.YtnpigefbdadjfaaDoorJns
import Derived.Test.YtnpigefbdadjfaaDoorJni
import Derived.Test.YtnpigefbdadjfaaDoorRs
namespace Go.Proofs.YtnpigefbdadjfaaDoor
open Go Go.RowKit
set_option linter.unusedVariables false

set_option maxHeartbeats 1600000 in
set_option maxRecDepth 100000 in
theorem law_FnExactJournalOf (v0 : Value) (l0 : List ByteArray) (k0 : ∀ s ∈ l0, s.size ≤ maxLen) (w : World) (r0 : RdS w v0 l0) (htab : Lib.TabIs Tryd.prog w "internal/strconv.uint64pow10" .u64 Lib.pow10Tab) :
    Calls Tryd.prog 5 #[v0] w fun e w' => e = .returned (.bool true) ∧ Below w.heap.size w w' := by
  have HZ := Lib.hid (fun W (h : RdS W v0 l0) => szStringS_any W v0 l0 1048576 h k0 (by decide) (by decide))
  have hok := szS_ok l0 1048576
  have HR0 := Lib.hid (r0)
  have HTB := Lib.hid htab
  clear htab
  by_cases hz : szS l0 1048576 < 0
  · clear hok
    generalize szS l0 1048576 = z at *
    go_enter Tryd.func5, Tryd.ntmps5
    go_wp2_with fail
    refine (HZ.out _ HR0.out).mono ?_; rintro e w' ⟨rfl, rfl⟩
    go_wp2_with fail
    go_ret
    exact ⟨rfl, Below.refl _ _⟩
  have g0 : l0.length ≤ 1048576 := by have := (hok (by omega)).1; omega
  have b0 : ∀ s ∈ l0, s.size ≤ 4000000 := fun s hs => by have := (hok (by omega)).2 s hs; omega
  clear hok
  generalize szS l0 1048576 = z at *
  have HS := Lib.hid (fun (W : World) (x0 : Value) (r0 : RdS W x0 l0) => journal_spec W x0 l0 r0 b0 (by omega))
  have HI := Lib.hid (fun (W : World) (x0 : Value) (r0 : RdS W x0 l0) ht => journal_impl W x0 l0 r0 b0 (by omega) ht)
  have fR0_0 := Lib.hid (r0)
  clear k0 r0 b0
  generalize jnB l0 = V at HS HI
  generalize jnOk (tl l0) = y0 at HS HI
  cases y0
  all_goals
    have G0 := Lib.hid g0
    clear g0
    go_enter Tryd.func5, Tryd.ntmps5
    have B0 := Lib.hid (Below.refl w.heap.size w)
    go_wp2_with fail
    refine (HZ.out _ HR0.out).mono ?_; rintro e w' ⟨rfl, rfl⟩
    clear HR0
    go_wp2_with fail
    refine (toStringS_any _ _ l0 fR0_0.out (by have := G0.out; omega)).mono ?_; rintro e u1 ⟨yv0, rfl, ho1_Y0, hb1⟩
    have fR0_1 := Lib.hid (fR0_0.out.keep hb1)
    have B1 := Lib.hid (B0.out.trans (hb1.mono B0.out.size))
    have fY0_1 := Lib.hid (OwnT.rds ho1_Y0)
    clear hb1 ho1_Y0 fR0_0 B0
    go_wp2_with fail
    refine (HS.out _ _ fY0_1.out).mono ?_; rintro e u2 ⟨rfl, hb2⟩
    have fR0_2 := Lib.hid (fR0_1.out.keep hb2)
    have B2 := Lib.hid (B1.out.trans (hb2.mono B1.out.size))
    clear hb2 fR0_1 fY0_1 B1
    go_wp2_with fail
    refine (toStringS_any _ _ l0 fR0_2.out (by have := G0.out; omega)).mono ?_; rintro e u3 ⟨xv0, rfl, ho3_X0, hb3⟩
    have fR0_3 := Lib.hid (fR0_2.out.keep hb3)
    have B3 := Lib.hid (B2.out.trans (hb3.mono B2.out.size))
    have fX0_3 := Lib.hid (OwnT.rds ho3_X0)
    clear hb3 ho3_X0 fR0_2 B2
    go_wp2_with fail
    refine (HI.out _ _ fX0_3.out (Lib.tabBelow_of_tabIs HTB.out _ B3.out)).mono ?_; rintro e u4 ⟨rfl, hb4⟩
    have fR0_4 := Lib.hid (fR0_3.out.keep hb4)
    have fX0_4 := Lib.hid (fX0_3.out.keep hb4)
    have B4 := Lib.hid (B3.out.trans (hb4.mono B3.out.size))
    clear hb4 fR0_3 fX0_3 B3
    go_wp2_with fail
    refine (toStringS_any _ _ l0 fR0_4.out (by have := G0.out; omega)).mono ?_; rintro e u5 ⟨zv0, rfl, ho5_Z0, hb5⟩
    have fX0_5 := Lib.hid (fX0_4.out.keep hb5)
    have B5 := Lib.hid (B4.out.trans (hb5.mono B4.out.size))
    have fZ0_5 := Lib.hid (OwnT.rds ho5_Z0)
    clear hb5 ho5_Z0 fR0_4 fX0_4 B4
    go_wp2_with fail
    refine (eqStringS_rd _ _ _ l0 fX0_5.out fZ0_5.out).mono ?_; rintro e u6 ⟨rfl, q6, rfl⟩
    have B6 := Lib.hid (below_drewN B5.out q6)
    clear fX0_5 fZ0_5 B5
    go_wp2_with fail
    go_ret
    exact ⟨rfl, B6.out⟩
end Go.Proofs.YtnpigefbdadjfaaDoor
