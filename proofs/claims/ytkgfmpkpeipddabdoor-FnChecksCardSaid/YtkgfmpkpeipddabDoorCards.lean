/-
  DERIVED. GIVEN WITH THE SEED: THE CARDS: each row of YtkgfmpkpeipddabDoorRows.lean that lists a variable, with what it lists TIED to the program's text (the seventh form; the later family's looks); each row that meets fmt, with fmt's text TOLD by the authors' own Lean function (tested against real Go, not proved from fmt's source: count such statements apart). THE CARD IS WHAT COUNTS. Prove the row's statement (the work); the ties are given (YtkgfmpkpeipddabDoorTie.lean); close each card by the builder's one call (the guide's Derived/Test/ToyasCard.lean, 'card_holds'). Laid BY PROGRAM, IN A SANDBOX (cutbox-door.mjs). By AI agents, Wed Nov 11 2026. No macro, syntax, notation, axiom, sorry.
-/
import Derived.Test.YtkgfmpkpeipddabDoorRows
import GoSem.ClaimSeven
namespace Go.Proofs.YtkgfmpkpeipddabDoor
namespace Rows

/-- THE TIED CARD OF 'laws.FnExactCheckBits'. -/
def fnExactCheckBitsCard : Claim7 := { stood := { row := fnExactCheckBitsRow, standIns := [], harness := (true, "507b1da640137beaa7367ebc7518c7915b44a767f6ebba9c35b0774325dd510c"), looks := false }, kinds := [], alts := [], laidByText := true, laidKinds := [.sentinel], laidTests := true, laidLooks := .later }
def FnExactCheckBitsCardSaid : Prop := Claim7.holds Tryd.pinned (.plain (OpenSpec.ofChange fnExactCheckBitsSpec)) fnExactCheckBitsCard

/-- THE TIED CARD OF 'laws.FnExactAddCheck'. -/
def fnExactAddCheckCard : Claim7 := { stood := { row := fnExactAddCheckRow, standIns := [], harness := (true, "507b1da640137beaa7367ebc7518c7915b44a767f6ebba9c35b0774325dd510c"), looks := false }, kinds := [], alts := [], laidByText := true, laidKinds := [.sentinel], laidTests := true, laidLooks := .later }
def FnExactAddCheckCardSaid : Prop := Claim7.holds Tryd.pinned (.plain (OpenSpec.ofChange fnExactAddCheckSpec)) fnExactAddCheckCard

/-- THE TIED CARD OF 'laws.FnExactHasCheck'. -/
def fnExactHasCheckCard : Claim7 := { stood := { row := fnExactHasCheckRow, standIns := [], harness := (true, "507b1da640137beaa7367ebc7518c7915b44a767f6ebba9c35b0774325dd510c"), looks := false }, kinds := [], alts := [], laidByText := true, laidKinds := [.sentinel], laidTests := true, laidLooks := .later }
def FnExactHasCheckCardSaid : Prop := Claim7.holds Tryd.pinned (.plain (OpenSpec.ofChange fnExactHasCheckSpec)) fnExactHasCheckCard

/-- THE TIED CARD OF 'laws.FnExactCheckOrder'. -/
def fnExactCheckOrderCard : Claim7 := { stood := { row := fnExactCheckOrderRow, standIns := [], harness := (true, "507b1da640137beaa7367ebc7518c7915b44a767f6ebba9c35b0774325dd510c"), looks := false }, kinds := [], alts := [], laidByText := true, laidKinds := [.sentinel], laidTests := true, laidLooks := .later }
def FnExactCheckOrderCardSaid : Prop := Claim7.holds Tryd.pinned (.plain (OpenSpec.ofChange fnExactCheckOrderSpec)) fnExactCheckOrderCard

/-- THE TIED CARD OF 'laws.FnExactCountMissed'. -/
def fnExactCountMissedCard : Claim7 := { stood := { row := fnExactCountMissedRow, standIns := [], harness := (true, "507b1da640137beaa7367ebc7518c7915b44a767f6ebba9c35b0774325dd510c"), looks := false }, kinds := [], alts := [], laidByText := true, laidKinds := [.sentinel], laidTests := true, laidLooks := .later }
def FnExactCountMissedCardSaid : Prop := Claim7.holds Tryd.pinned (.plain (OpenSpec.ofChange fnExactCountMissedSpec)) fnExactCountMissedCard

/-- THE TIED CARD OF 'laws.FnExactLeastMissed'. -/
def fnExactLeastMissedCard : Claim7 := { stood := { row := fnExactLeastMissedRow, standIns := [], harness := (true, "507b1da640137beaa7367ebc7518c7915b44a767f6ebba9c35b0774325dd510c"), looks := false }, kinds := [], alts := [], laidByText := true, laidKinds := [.sentinel, .sentinel], laidTests := true, laidLooks := .later }
def FnExactLeastMissedCardSaid : Prop := Claim7.holds Tryd.pinned (.plain (OpenSpec.ofChange fnExactLeastMissedSpec)) fnExactLeastMissedCard

/-- THE TIED CARD OF 'laws.FnChecks'. -/
def fnChecksCard : Claim7 := { stood := { row := fnChecksRow, standIns := [], harness := (true, "507b1da640137beaa7367ebc7518c7915b44a767f6ebba9c35b0774325dd510c"), looks := false }, kinds := [], alts := [], laidByText := true, laidKinds := [.sentinel], laidTests := true, laidLooks := .later }
def FnChecksCardSaid : Prop := Claim7.holds Tryd.pinned (.plain (OpenSpec.ofChange fnChecksSpec)) fnChecksCard

/-- THE TIED CARD OF 'laws.FnMissed'. -/
def fnMissedCard : Claim7 := { stood := { row := fnMissedRow, standIns := [], harness := (true, "507b1da640137beaa7367ebc7518c7915b44a767f6ebba9c35b0774325dd510c"), looks := false }, kinds := [], alts := [], laidByText := true, laidKinds := [.sentinel, .sentinel], laidTests := true, laidLooks := .later }
def FnMissedCardSaid : Prop := Claim7.holds Tryd.pinned (.plain (OpenSpec.ofChange fnMissedSpec)) fnMissedCard

/-- THE TIED CARD OF 'laws.FnBursts'. -/
def fnBurstsCard : Claim7 := { stood := { row := fnBurstsRow, standIns := [], harness := (true, "507b1da640137beaa7367ebc7518c7915b44a767f6ebba9c35b0774325dd510c"), looks := false }, kinds := [], alts := [], laidByText := true, laidKinds := [.data, .sentinel], laidTests := true, laidLooks := .later }
def FnBurstsCardSaid : Prop := Claim7.holds Tryd.pinned (.plain (OpenSpec.ofChange fnBurstsSpec)) fnBurstsCard

/-- THE SECOND FORM's CARD OF 'laws.FnExactCheckBits'. -/
def fnExactCheckBitsUptoCard : Claim7 := { stood := { row := fnExactCheckBitsUptoRow, standIns := [], harness := (true, "507b1da640137beaa7367ebc7518c7915b44a767f6ebba9c35b0774325dd510c"), looks := false }, kinds := [], alts := [], laidByText := true, laidKinds := [.sentinel], laidTests := true, laidLooks := .later }
def FnExactCheckBitsUptoCardSaid : Prop := Claim7.holds Tryd.pinned (.plain (OpenSpec.upto fnExactCheckBitsSpec)) fnExactCheckBitsUptoCard

/-- THE SECOND FORM's CARD OF 'laws.FnExactAddCheck'. -/
def fnExactAddCheckUptoCard : Claim7 := { stood := { row := fnExactAddCheckUptoRow, standIns := [], harness := (true, "507b1da640137beaa7367ebc7518c7915b44a767f6ebba9c35b0774325dd510c"), looks := false }, kinds := [], alts := [], laidByText := true, laidKinds := [.sentinel], laidTests := true, laidLooks := .later }
def FnExactAddCheckUptoCardSaid : Prop := Claim7.holds Tryd.pinned (.plain (OpenSpec.upto fnExactAddCheckSpec)) fnExactAddCheckUptoCard

/-- THE SECOND FORM's CARD OF 'laws.FnExactHasCheck'. -/
def fnExactHasCheckUptoCard : Claim7 := { stood := { row := fnExactHasCheckUptoRow, standIns := [], harness := (true, "507b1da640137beaa7367ebc7518c7915b44a767f6ebba9c35b0774325dd510c"), looks := false }, kinds := [], alts := [], laidByText := true, laidKinds := [.sentinel], laidTests := true, laidLooks := .later }
def FnExactHasCheckUptoCardSaid : Prop := Claim7.holds Tryd.pinned (.plain (OpenSpec.upto fnExactHasCheckSpec)) fnExactHasCheckUptoCard

/-- THE SECOND FORM's CARD OF 'laws.FnExactCheckOrder'. -/
def fnExactCheckOrderUptoCard : Claim7 := { stood := { row := fnExactCheckOrderUptoRow, standIns := [], harness := (true, "507b1da640137beaa7367ebc7518c7915b44a767f6ebba9c35b0774325dd510c"), looks := false }, kinds := [], alts := [], laidByText := true, laidKinds := [.sentinel], laidTests := true, laidLooks := .later }
def FnExactCheckOrderUptoCardSaid : Prop := Claim7.holds Tryd.pinned (.plain (OpenSpec.upto fnExactCheckOrderSpec)) fnExactCheckOrderUptoCard

/-- THE SECOND FORM's CARD OF 'laws.FnExactCountMissed'. -/
def fnExactCountMissedUptoCard : Claim7 := { stood := { row := fnExactCountMissedUptoRow, standIns := [], harness := (true, "507b1da640137beaa7367ebc7518c7915b44a767f6ebba9c35b0774325dd510c"), looks := false }, kinds := [], alts := [], laidByText := true, laidKinds := [.sentinel], laidTests := true, laidLooks := .later }
def FnExactCountMissedUptoCardSaid : Prop := Claim7.holds Tryd.pinned (.plain (OpenSpec.upto fnExactCountMissedSpec)) fnExactCountMissedUptoCard

/-- THE SECOND FORM's CARD OF 'laws.FnExactLeastMissed'. -/
def fnExactLeastMissedUptoCard : Claim7 := { stood := { row := fnExactLeastMissedUptoRow, standIns := [], harness := (true, "507b1da640137beaa7367ebc7518c7915b44a767f6ebba9c35b0774325dd510c"), looks := false }, kinds := [], alts := [], laidByText := true, laidKinds := [.sentinel, .sentinel], laidTests := true, laidLooks := .later }
def FnExactLeastMissedUptoCardSaid : Prop := Claim7.holds Tryd.pinned (.plain (OpenSpec.upto fnExactLeastMissedSpec)) fnExactLeastMissedUptoCard

/-- THE SECOND FORM's CARD OF 'laws.FnChecks'. -/
def fnChecksUptoCard : Claim7 := { stood := { row := fnChecksUptoRow, standIns := [], harness := (true, "507b1da640137beaa7367ebc7518c7915b44a767f6ebba9c35b0774325dd510c"), looks := false }, kinds := [], alts := [], laidByText := true, laidKinds := [.sentinel], laidTests := true, laidLooks := .later }
def FnChecksUptoCardSaid : Prop := Claim7.holds Tryd.pinned (.plain (OpenSpec.upto fnChecksSpec)) fnChecksUptoCard

/-- THE SECOND FORM's CARD OF 'laws.FnMissed'. -/
def fnMissedUptoCard : Claim7 := { stood := { row := fnMissedUptoRow, standIns := [], harness := (true, "507b1da640137beaa7367ebc7518c7915b44a767f6ebba9c35b0774325dd510c"), looks := false }, kinds := [], alts := [], laidByText := true, laidKinds := [.sentinel, .sentinel], laidTests := true, laidLooks := .later }
def FnMissedUptoCardSaid : Prop := Claim7.holds Tryd.pinned (.plain (OpenSpec.upto fnMissedSpec)) fnMissedUptoCard

/-- THE SECOND FORM's CARD OF 'laws.FnBursts'. -/
def fnBurstsUptoCard : Claim7 := { stood := { row := fnBurstsUptoRow, standIns := [], harness := (true, "507b1da640137beaa7367ebc7518c7915b44a767f6ebba9c35b0774325dd510c"), looks := false }, kinds := [], alts := [], laidByText := true, laidKinds := [.data, .sentinel], laidTests := true, laidLooks := .later }
def FnBurstsUptoCardSaid : Prop := Claim7.holds Tryd.pinned (.plain (OpenSpec.upto fnBurstsSpec)) fnBurstsUptoCard
end Rows
end Go.Proofs.YtkgfmpkpeipddabDoor
