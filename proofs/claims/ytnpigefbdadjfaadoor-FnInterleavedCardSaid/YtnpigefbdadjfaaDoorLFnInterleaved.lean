/- For all two rows of bytes, the law FnInterleaved returns true and leaves its arguments as they were; no condition: the row, and its tied card. -/
import Derived.Test.YtnpigefbdadjfaaDoorRows
import Derived.Test.YtnpigefbdadjfaaDoorCards
import Derived.Test.YtnpigefbdadjfaaDoorTie
import Derived.Test.YtnpigefbdadjfaaDoorWFnInterleaved
import Derived.Test.YtnpigefbdadjfaaDoorSrc
import Derived.Carry
import Derived.ProofKit
import Derived.LaidMore
import Derived.OpenShut
import Derived.ShutString
import Derived.ChangeOld
import Derived.Below
import Derived.Stop.Joined
import Derived.Stop.LaidErr
import Derived.Lib.LaidTab
import Derived.SevenTiedAt
import Derived.Lib.SmallJoins
namespace Go.Proofs.YtnpigefbdadjfaaDoor.fnInterleaved
open Go.ChangeShapes Go.WideShapes Go.ChangeAt Go.RowKit
open Go.ChangeMaps (open_string shut_string)
set_option linter.unusedVariables false

theorem laid : laidOutB Tryd.prog = true := by kernel_rfl
theorem own : ownKnob Tryd.prog.godebug = none := by kernel_rfl
/-- What the row lists. -/
def laidL : List (String × DataW Unit) := [("loop.example/g01142/impl.errInvalid", Rows.laid_loop_example_g01142_impl_errInvalid), ("loop.example/g01142/impl.errNone", Rows.laid_loop_example_g01142_impl_errNone)]
theorem door_met (os : Os) (args : Array Value) : laidMetH Tryd.prog laidL ((World.doorLaid Tryd.prog 400 os).forCall (fun _ _ => 0) ⟨#[], args, []⟩).memory :=
  laidMetH_of_parts3 (fuel := 8) (laidMet_of_run' 8 (by kernel_rfl) (by kernel_rfl)) (by kernel_rfl) (by kernel_rfl)
theorem cellsE : Tryd.prog.cellsOf 221 = 1 := by kernel_rfl
theorem cellsS : Tryd.prog.cellsOf 9 = 1 := by kernel_rfl
theorem star : "*" ++ "errors.errorString" = "*errors.errorString" := by decide
theorem rowE (u : TypeId) (h : Tryd.prog.typeName? 3 u = some "*errors.errorString") : u = 219 :=
  typeName_ptr_named (nm := "errors.errorString") (by rw [star]; kernel_rfl) (by kernel_rfl) (by decide) u (by rw [star]; exact h)
theorem g_inv : Tryd.prog.globalNamed "loop.example/g01142/impl.errInvalid" = some 0 := by kernel_rfl
theorem t_inv : (Tryd.prog.globals[0]?).map (·.type) = some 82 := by kernel_rfl
theorem g_none : Tryd.prog.globalNamed "loop.example/g01142/impl.errNone" = some 1 := by kernel_rfl
theorem t_none : (Tryd.prog.globals[1]?).map (·.type) = some 82 := by kernel_rfl
theorem vars_of {W : World} (h : laidMetH Tryd.prog laidL W) : (∃ a, W.var? Tryd.prog "loop.example/g01142/impl.errInvalid" = some #[.iface 219 (.pointer (some a))]) ∧ (∃ a, W.var? Tryd.prog "loop.example/g01142/impl.errNone" = some #[.iface 219 (.pointer (some a))]) := by
  rw [MakeChecks.laidMetH_plain _ _ _ (by kernel_rfl)] at h
  obtain ⟨a0, _, r0, _⟩ := laid_sentinel (g := 0) (ti := 82) (f := _) h (by kernel_rfl) (by kernel_rfl) Tryd.underlying82 rowE Tryd.underlying219 Tryd.underlying221 rfl rfl Tryd.underlying9 cellsE cellsS
  obtain ⟨a1, _, r1, _⟩ := laid_sentinel (g := 1) (ti := 82) (f := _) h.tail (by kernel_rfl) (by kernel_rfl) Tryd.underlying82 rowE Tryd.underlying219 Tryd.underlying221 rfl rfl Tryd.underlying9 cellsE cellsS
  exact ⟨⟨a0, r0⟩, ⟨a1, r1⟩⟩

set_option maxRecDepth 100000 in
theorem lifted (os : Os) (started : os.Started) (H : Type) (enc : TypeId × Value → H) :
    ReturnsInHanded {} Tryd.checked os 8 .any (fun w args => (Rows.fnInterleavedSpec.pre enc Tryd.prog Tryd.f8 [] false w args ∧ laidMetH Tryd.prog laidL w) ∧ sizedMet enc Tryd.prog Tryd.f8 (OpenSpec.ofChange Rows.fnInterleavedSpec) false w args)
      (Rows.fnInterleavedSpec.post enc Tryd.prog Tryd.f8 false true false false) := by
  refine returnsInHanded_of_change_and (C := Tryd.checked) (X := fun w _ => laidMetH Tryd.prog laidL w) (fun _ _ _ hh h => h.of_heap hh) own started (by kernel_rfl) Tryd.func8
    (ChangeSpec.witness_shaped (enc := enc) (C := Tryd.checked) (os := os) (X := fun w _ => laidMetH Tryd.prog laidL w) false (World.doorLaid Tryd.prog 400 os) #[.slice none 0 0, .slice none 0 0] 8 rfl (World.shaped_of_RefB (by kernel_rfl) (by kernel_rfl)) (by kernel_rfl) (by kernel_rfl) (by kernel_rfl) (door_met os _)) ?_
  intro W base args ds gs before hval0 hW _ _ hL _
  have hval : ∀ (j : Nat) t v, Tryd.f8.params[j]? = some t → args[j]? = some v → Value.okWide Tryd.prog W .any base t v := hval0
  have hW' := hW
  obtain ⟨p, q, hA0, hV0, rfl, hfz, hnd⟩ := hW
  have hA : DataW.TrodAll enc Tryd.prog W 0 (fun _ => true) true Tryd.f8.params.toList args.toList ds p := hA0
  have hV : DataW.TrodVars enc Tryd.prog W (fun _ => true) ["loop.example/g01142/impl.errInvalid", "loop.example/g01142/impl.errNone"] gs q := hV0
  rw [Tryd.params8] at hA hval
  obtain ⟨v0, vs0, d0, ds0, p0, q0, hargs, rfl, rfl, h0, r0⟩ := trodAll_cons hA
  obtain ⟨v1, vs1, d1, ds1, p1, q1, rfl, rfl, rfl, h1, r1⟩ := trodAll_cons r0
  obtain ⟨rfl, rfl, rfl⟩ := trodAll_nil r1
  obtain rfl : args = #[v0, v1] := by cases args; simp_all
  have hvars := vars_of hL
  obtain ⟨⟨e0, hv0⟩, ⟨e1, hv1⟩⟩ := hvars
  obtain ⟨rfl, rfl⟩ := hV.unique (vars_read2 enc g_inv t_inv Tryd.underlying82 hv0 trivial g_none t_none Tryd.underlying82 hv1 trivial _)
  have hg0 : Ev 0 e0 W := ⟨by simpa using World.var?_cell g_inv hv0 0⟩
  have hg1 : Ev 1 e1 W := ⟨by simpa using World.var?_cell g_none hv1 0⟩
  have kk0 := h0
  obtain ⟨ao0, len0, cap0, rfl⟩ := okWide_slice Tryd.underlying22 (hval 0 22 v0 rfl rfl)
  obtain ⟨fuel0, hf0⟩ := h0
  obtain ⟨l0, R0, F0⟩ := bytes_open (v := .slice ao0 len0 cap0) (by simpa [Value.cells] using hf0)
  have kk1 := h1
  obtain ⟨ao1, len1, cap1, rfl⟩ := okWide_slice Tryd.underlying22 (hval 1 22 v1 rfl rfl)
  obtain ⟨fuel1, hf1⟩ := h1
  obtain ⟨l1, R1, F1⟩ := bytes_open (v := .slice ao1 len1 cap1) (by simpa [Value.cells] using hf1)
  clear hA0 hV0 hval0
  refine (law_FnInterleaved _ l0 F0 _ l1 F1 W hg0 hg1 R0 R1).mono fun e W' ⟨he, bel⟩ => ?_
  subst he
  exact ⟨_, rfl, _, _, _, [], _, [.cell 0 0, .cell 1 0], hW', trodAll_mk1 (shut_bool Tryd.underlying4 _), (trodAll_cons_mk (Go.RowKit.Below.trod laid (by kernel_rfl) (of_decide_eq_true (by kernel_rfl)) kk0 bel (fun x hx => DataW.trod_lt _ _ _ _ kk0.choose_spec x hx)) (trodAll_cons_mk (Go.RowKit.Below.trod laid (by kernel_rfl) (of_decide_eq_true (by kernel_rfl)) kk1 bel (fun x hx => DataW.trod_lt _ _ _ _ kk1.choose_spec x hx)) trodAll_mk0)), (vars_read2 enc g_inv t_inv Tryd.underlying82 (Joins.var_stays g_inv hv0 bel (Nat.le_refl _)) trivial g_none t_none Tryd.underlying82 (Joins.var_stays g_none hv1 bel (Nat.le_refl _)) trivial _), bel.frame _, fun h => by cases h⟩

theorem row_holds : Rows.FnInterleavedSaid :=
  OpenClaim.holds_of_wide 8 Tryd.f8 rfl rfl rfl rfl rfl rfl rfl ⟨rfl, rfl, rfl, rfl, rfl⟩ rfl rfl rfl rfl rfl (by kernel_rfl) Tryd.func8 (by kernel_rfl)
    (of_decide_eq_true (by kernel_rfl)) (by unfold Func.isWrapper; first | (rw [if_pos (by decide +kernel)]; kernel_rfl) | (rw [if_neg (by decide +kernel)]; exact ⟨rfl, rfl⟩))
    (fun os started H enc _ => lifted os started H enc)

/-- The statement: the tied card. -/
theorem proved : Rows.FnInterleavedCardSaid :=
  Claim7.holds_tied_plain_at .later [] [.sentinel, .sentinel] true (true, Rows.fnInterleavedCard.stood.harness.2) Rows.fnInterleavedCard.stood.looks
    row_holds (fun _ h => by cases h) (by kernel_rfl) (fun _ h => by cases h) fnInterleaved_row_tie rfl ⟨rfl, rfl⟩ (by kernel_rfl) rfl
    (fun f fn hf hfn => by
      obtain rfl : f = 8 := Option.some.inj ((show Tryd.prog.funcNamed "loop.example/g01142/laws.FnInterleaved" = some 8 by kernel_rfl).symm.trans hf) |>.symm
      obtain rfl : fn = Tryd.f8 := (Option.some.inj (Tryd.func8.symm.trans hfn)).symm
      exact ⟨by kernel_rfl, fun j t ht => by
        rw [Tryd.params8] at ht
        rcases j with _ | _ | j
        · obtain rfl : t = 22 := by simpa using ht.symm
          exact (show Tryd.prog.wantsStandIn 22 = false by kernel_rfl)
        · obtain rfl : t = 22 := by simpa using ht.symm
          exact (show Tryd.prog.wantsStandIn 22 = false by kernel_rfl)
        · simp at ht⟩)
    (by kernel_rfl)
#print axioms proved
end Go.Proofs.YtnpigefbdadjfaaDoor.fnInterleaved
