/- The frame of FnExactIsComma: from the walk to the statement. -/
import Derived.Test.YtijmfienaoeboabRows
import Derived.ProofKit
import Derived.OpenShut
import Derived.ChangeOld
import Derived.HandedShaped
namespace Go.Proofs.Ytijmfienaoeboab.fnExactIsComma
open Go.ChangeShapes Go.WideShapes Go.ChangeAt Go.RowKit
set_option linter.unusedVariables false

set_option maxHeartbeats 8000000 in
theorem over_of (lf : ∀ (os : Os) (started : os.Started) (H : Type) (enc : TypeId × Value → H), ReturnsInHanded {} Try.checked os 10 .any (Rows.fnExactIsCommaSpec.pre6 enc Try.prog Try.f10 Rows.fnExactIsCommaRow.domain false) (Rows.fnExactIsCommaSpec.post enc Try.prog Try.f10 false true false false)) : Rows.fnExactIsCommaRow.holds Try.pinned (OpenSpec.ofChange Rows.fnExactIsCommaSpec) :=
  OpenClaim.holds_of_wide 10 Try.f10 rfl rfl rfl rfl rfl rfl rfl ⟨rfl, rfl, rfl, rfl, rfl⟩ rfl rfl rfl rfl rfl (by as_aux_lemma => kernel_rfl) Try.func10 (by as_aux_lemma => kernel_rfl)
    (of_decide_eq_true (by as_aux_lemma => kernel_rfl)) (by unfold Func.isWrapper; first | (rw [if_pos (by decide +kernel)]; kernel_rfl) | (rw [if_neg (by decide +kernel)]; exact ⟨rfl, rfl⟩))
    (fun os started H enc _ => lf os started H enc)
end Go.Proofs.Ytijmfienaoeboab.fnExactIsComma
