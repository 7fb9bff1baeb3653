/- The frame of FnTurnedLevels: from the walk to the statement. -/
import Derived.Test.YtmhdjimdhcephaaRows
import Derived.ProofKit
import Derived.OpenShut
import Derived.ChangeOld
import Derived.HandedShaped
import Derived.Test.YtmhdjimdhcephaaLvg
namespace Go.Proofs.Ytmhdjimdhcephaa.fnTurnedLevels
open Go.ChangeShapes Go.WideShapes Go.ChangeAt Go.RowKit
set_option linter.unusedVariables false

set_option maxHeartbeats 8000000 in
theorem over_of (lf : ∀ (os : Os) (started : os.Started) (H : Type) (enc : TypeId × Value → H), ReturnsInHanded {} Try.checked os 14 .any (Rows.fnTurnedLevelsSpec.pre6 enc Try.prog Try.f14 Rows.fnTurnedLevelsRow.domain false) (Rows.fnTurnedLevelsSpec.post enc Try.prog Try.f14 false true false false)) : Rows.fnTurnedLevelsRow.holds Try.pinned (OpenSpec.ofChange Rows.fnTurnedLevelsSpec) :=
  OpenClaim.holds_of_wide_leaving 14 Try.f14 rfl rfl rfl rfl rfl rfl rfl ⟨rfl, rfl, rfl, rfl, rfl⟩ rfl rfl rfl rfl rfl (by as_aux_lemma => kernel_rfl) Try.func14 (by as_aux_lemma => kernel_rfl)
    (of_decide_eq_true (by as_aux_lemma => kernel_rfl)) (by unfold Func.isWrapper; first | (rw [if_pos (by decide +kernel)]; kernel_rfl) | (rw [if_neg (by decide +kernel)]; exact ⟨rfl, rfl⟩))
    (fun os started H enc _ => leaving_of_handed (lf os started H enc))
end Go.Proofs.Ytmhdjimdhcephaa.fnTurnedLevels
