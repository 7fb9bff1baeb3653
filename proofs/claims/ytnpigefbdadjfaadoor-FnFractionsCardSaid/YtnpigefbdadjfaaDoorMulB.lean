/- Both products of fractions. -/
import Derived.Test.YtnpigefbdadjfaaDoorMul
namespace Go.Proofs.YtnpigefbdadjfaaDoor
open Go Go.RowKit
set_option linter.unusedVariables false

def mfOk (fn fd gn gd : Int) : Prop := fIs fn fd = true ∧ fIs gn gd = true
instance (fn fd gn gd : Int) : Decidable (mfOk fn fd gn gd) := inferInstanceAs (Decidable (_ ∧ _))
def mlN (fn fd gn gd : Int) : Int := if mfOk fn fd gn gd then foN (mkN fn gd * mkN gn fd) (mkD fn gd * mkD gn fd) else 0
def mlD (fn fd gn gd : Int) : Int := if mfOk fn fd gn gd then foD (mkN fn gd * mkN gn fd) (mkD fn gd * mkD gn fd) else 0
def mlB (fn fd gn gd : Int) : Bool := if mfOk fn fd gn gd then ptB (mkN fn gd * mkN gn fd) && ptB (mkD fn gd * mkD gn fd) else false
theorem fIs_bd {n d : Int} (h : fIs n d = true) : (1 ≤ d ∧ d ≤ 1000000000000000000) ∧ -1000000000000000000 ≤ n ∧ n ≤ 1000000000000000000 :=
  have e := of_decide_eq_true h
  ⟨⟨e.1, e.2.1⟩, e.2.2.1, e.2.2.2.1⟩

end Go.Proofs.YtnpigefbdadjfaaDoor
