/- What both sides ask of lists of numbers. -/
import Derived.Test.YtmhdjimdhcephaaRd
import Derived.Test.YtmhdjimdhcephaaEsP
import Derived.Test.YtmhdjimdhcephaaPos
import Derived.Test.YtmhdjimdhcephaaBtw
import Derived.Deep.QuietTactic
import Derived.BigQuiet
namespace Go.Proofs.Ytmhdjimdhcephaa
open Go Go.RowKit
set_option linter.unusedVariables false
theorem quiet_at {P : Program} {f : FuncId} {args : Array Value} {w : World} {q n : Nat} {v : Value}
    (h : Calls P f args (w.drewN (q + n)) fun e w' => e = .returned v ∧ w.drewN (q + n) = w') : Calls P f args (w.drewN (q + n)) fun e w'' => e = .returned v ∧ ∃ m, w'' = w.drewN (q + m) :=
  h.mono fun _ _ ⟨he, hm⟩ => ⟨he, n, hm.symm⟩

end Go.Proofs.Ytmhdjimdhcephaa
