/- For all block codes and numbers, the law FnExactCommasOf returns true and leaves its arguments as they were; no condition beside the program's own variable MaxLen, which holds some number. -/
import Derived.Test.YtijmfienaoeboabRows
import Derived.Test.YtijmfienaoeboabWFnExactCommasOf
import Derived.ProofKit
import Derived.OpenShut
import Derived.ShutString
import Derived.ChangeOld
import Derived.Below
import Derived.HandedShaped
import Derived.Carry
import Derived.Test.YtijmfienaoeboabBf
namespace Go.Proofs.Ytijmfienaoeboab.fnExactCommasOf
open Go.ChangeShapes Go.WideShapes Go.ChangeAt Go.RowKit
open Go.ChangeMaps (open_string shut_string)
set_option linter.unusedVariables false

theorem laid : laidOutB Try.prog = true := by kernel_rfl
theorem own : ownKnob Try.prog.godebug = none := by kernel_rfl
set_option maxRecDepth 100000 in
theorem lifted (os : Os) (started : os.Started) (H : Type) (enc : TypeId × Value → H) :
    ReturnsInHanded {} Try.checked os 11 .any (Rows.fnExactCommasOfSpec.pre6 enc Try.prog Try.f11 Rows.fnExactCommasOfRow.domain false) (Rows.fnExactCommasOfSpec.post enc Try.prog Try.f11 false true false false) := by
  refine returnsInHanded_of_change_shaped (C := Try.checked) own started (by kernel_rfl) Try.func11
    (ChangeSpec.witness6 (enc := enc) (C := Try.checked) false ⟨#[], #[.agg #[.int .i64 0, .int .i64 0, .slice none 0 0, .slice none 0 0], .int .i64 0], []⟩ 8 (by kernel_rfl) (by kernel_rfl) (by kernel_rfl) (by kernel_rfl)) ?_
  intro W base args ds gs before hval0 hW hcnd _ hsh _
  obtain ⟨mm, hmm⟩ : ∃ mm : Int, W.cell? ⟨0, 0, none⟩ = some (.int .i64 mm) := by first | exact Try.laysM185.s1_3 W hsh | exact Try.laysM219.s1_3 W hsh | exact Try.laysM143.s1_3 W hsh
  have hval : ∀ (j : Nat) t v, Try.f11.params[j]? = some t → args[j]? = some v → Value.okWide Try.prog W .any base t v := hval0
  have hW' := hW
  obtain ⟨p, q, hA0, hV, rfl, hfz, hnd⟩ := hW
  have hA : DataW.TrodAll enc Try.prog W 0 (fun _ => true) true Try.f11.params.toList args.toList ds p := hA0
  rw [Try.params11] at hA hval
  obtain ⟨v0, vs0, d0, ds0, p0, q0, hargs, rfl, rfl, h0, r0⟩ := trodAll_cons hA
  obtain ⟨v1, vs1, d1, ds1, p1, q1, rfl, rfl, rfl, h1, r1⟩ := trodAll_cons r0
  obtain ⟨rfl, rfl, rfl⟩ := trodAll_nil r1
  obtain rfl : args = #[v0, v1] := by cases args; simp_all
  obtain ⟨rfl, rfl⟩ := trodVars_none hV
  have kk0 := h0
  obtain ⟨bd0, be0, vm0, vp0, lm0, lp0, rfl, Rm0, Rp0, Fm0, Fp0⟩ := bc_open (hval 0 58 v0 rfl rfl) h0
  obtain ⟨a1, rfl, rfl, rfl, w1⟩ := open_int Try.underlying2 (hval 1 2 v1 rfl rfl) h1
  clear hA0 hval0
  refine (law_FnExactCommasOf bd0 be0 _ _ lm0 lp0 Fm0 Fp0 a1 w1 W mm hmm Rm0 Rp0).mono fun e W' ⟨he, bel⟩ => ?_
  subst he
  exact ⟨_, rfl, _, _, _, [], _, [], hW', trodAll_mk1 (shut_bool Try.underlying4 _), (trodAll_cons_mk (Go.RowKit.Below.trod laid (by kernel_rfl) (of_decide_eq_true (by kernel_rfl)) kk0 bel (fun x hx => DataW.trod_lt _ _ _ _ kk0.choose_spec x hx)) (trodAll_cons_mk (shut_int Try.underlying2 w1) trodAll_mk0)), rfl, bel.frame _, fun h => by cases h⟩
end Go.Proofs.Ytijmfienaoeboab.fnExactCommasOf
