/-
  DERIVED. GIVEN WITH THE SEED: THE CARDS: each row of YtnpigefbdadjfaaDoorRows.lean that lists a variable, with what it lists TIED to the program's text (the seventh form; the later family's looks); each row that meets fmt, with fmt's text TOLD by the authors' own Lean function (tested against real Go, not proved from fmt's source: count such statements apart). THE CARD IS WHAT COUNTS. Prove the row's statement (the work); the ties are given (YtnpigefbdadjfaaDoorTie.lean); close each card by the builder's one call (the guide's Derived/Test/ToyasCard.lean, 'card_holds'). Laid BY PROGRAM, IN A SANDBOX (cutbox-door.mjs). By AI agents, Wed Nov 11 2026. No macro, syntax, notation, axiom, sorry.
-/
import Derived.Test.YtnpigefbdadjfaaDoorRows
import GoSem.ClaimSeven
namespace Go.Proofs.YtnpigefbdadjfaaDoor
namespace Rows

/-- THE TIED CARD OF 'laws.FnStuffed'. -/
def fnStuffedCard : Claim7 := { stood := { row := fnStuffedRow, standIns := [], harness := (true, "90c48f71e9f6e54c8f59ee368853e3c1aaf8b67216559c930eee1f062daf73a7"), looks := true }, kinds := [], alts := [], laidByText := true, laidKinds := [.data, .pinned], laidTests := true, laidLooks := .later }
def FnStuffedCardSaid : Prop := Claim7.holds Tryd.pinned (.plain (OpenSpec.ofChange fnStuffedSpec)) fnStuffedCard

/-- THE TIED CARD OF 'laws.FnFractions'. -/
def fnFractionsCard : Claim7 := { stood := { row := fnFractionsRow, standIns := [], harness := (true, "90c48f71e9f6e54c8f59ee368853e3c1aaf8b67216559c930eee1f062daf73a7"), looks := true }, kinds := [], alts := [], laidByText := true, laidKinds := [.data, .data, .data, .sentinel, .sentinel], laidTests := true, laidLooks := .later }
def FnFractionsCardSaid : Prop := Claim7.holds Tryd.pinned (.plain (OpenSpec.ofChange fnFractionsSpec)) fnFractionsCard

/-- THE TIED CARD OF 'laws.FnExactJournalOf'. -/
def fnExactJournalOfCard : Claim7 := { stood := { row := fnExactJournalOfRow, standIns := [], harness := (true, "90c48f71e9f6e54c8f59ee368853e3c1aaf8b67216559c930eee1f062daf73a7"), looks := true }, kinds := [], alts := [], laidByText := true, laidKinds := [.data, .data, .data], laidTests := true, laidLooks := .later }
def FnExactJournalOfCardSaid : Prop := Claim7.holds Tryd.pinned (.plain (OpenSpec.ofChange fnExactJournalOfSpec)) fnExactJournalOfCard

/-- THE TIED CARD OF 'laws.FnExactRecoverJournal'. -/
def fnExactRecoverJournalCard : Claim7 := { stood := { row := fnExactRecoverJournalRow, standIns := [], harness := (true, "90c48f71e9f6e54c8f59ee368853e3c1aaf8b67216559c930eee1f062daf73a7"), looks := true }, kinds := [], alts := [], laidByText := true, laidKinds := [.data, .data, .data], laidTests := true, laidLooks := .later }
def FnExactRecoverJournalCardSaid : Prop := Claim7.holds Tryd.pinned (.plain (OpenSpec.ofChange fnExactRecoverJournalSpec)) fnExactRecoverJournalCard

/-- THE TIED CARD OF 'laws.FnJournal'. -/
def fnJournalCard : Claim7 := { stood := { row := fnJournalRow, standIns := [], harness := (true, "90c48f71e9f6e54c8f59ee368853e3c1aaf8b67216559c930eee1f062daf73a7"), looks := true }, kinds := [], alts := [], laidByText := true, laidKinds := [.data, .data, .data], laidTests := true, laidLooks := .later }
def FnJournalCardSaid : Prop := Claim7.holds Tryd.pinned (.plain (OpenSpec.ofChange fnJournalSpec)) fnJournalCard

/-- THE TIED CARD OF 'laws.FnInterleaved'. -/
def fnInterleavedCard : Claim7 := { stood := { row := fnInterleavedRow, standIns := [], harness := (true, "90c48f71e9f6e54c8f59ee368853e3c1aaf8b67216559c930eee1f062daf73a7"), looks := true }, kinds := [], alts := [], laidByText := true, laidKinds := [.sentinel, .sentinel], laidTests := true, laidLooks := .later }
def FnInterleavedCardSaid : Prop := Claim7.holds Tryd.pinned (.plain (OpenSpec.ofChange fnInterleavedSpec)) fnInterleavedCard

/-- THE TIED CARD OF 'laws.FnBursts'. -/
def fnBurstsCard : Claim7 := { stood := { row := fnBurstsRow, standIns := [], harness := (true, "90c48f71e9f6e54c8f59ee368853e3c1aaf8b67216559c930eee1f062daf73a7"), looks := true }, kinds := [], alts := [], laidByText := true, laidKinds := [.data, .sentinel], laidTests := true, laidLooks := .later }
def FnBurstsCardSaid : Prop := Claim7.holds Tryd.pinned (.plain (OpenSpec.ofChange fnBurstsSpec)) fnBurstsCard

/-- THE TIED CARD OF 'laws.FnExactLongestRun'. -/
def fnExactLongestRunCard : Claim7 := { stood := { row := fnExactLongestRunRow, standIns := [], harness := (true, "90c48f71e9f6e54c8f59ee368853e3c1aaf8b67216559c930eee1f062daf73a7"), looks := true }, kinds := [], alts := [], laidByText := true, laidKinds := [.data, .pinned], laidTests := true, laidLooks := .later }
def FnExactLongestRunCardSaid : Prop := Claim7.holds Tryd.pinned (.plain (OpenSpec.ofChange fnExactLongestRunSpec)) fnExactLongestRunCard

/-- THE SECOND FORM's CARD OF 'laws.FnStuffed'. -/
def fnStuffedUptoCard : Claim7 := { stood := { row := fnStuffedUptoRow, standIns := [], harness := (true, "90c48f71e9f6e54c8f59ee368853e3c1aaf8b67216559c930eee1f062daf73a7"), looks := true }, kinds := [], alts := [], laidByText := true, laidKinds := [.data, .pinned], laidTests := true, laidLooks := .later }
def FnStuffedUptoCardSaid : Prop := Claim7.holds Tryd.pinned (.plain (OpenSpec.upto fnStuffedSpec)) fnStuffedUptoCard

/-- THE SECOND FORM's CARD OF 'laws.FnFractions'. -/
def fnFractionsUptoCard : Claim7 := { stood := { row := fnFractionsUptoRow, standIns := [], harness := (true, "90c48f71e9f6e54c8f59ee368853e3c1aaf8b67216559c930eee1f062daf73a7"), looks := true }, kinds := [], alts := [], laidByText := true, laidKinds := [.data, .data, .data, .sentinel, .sentinel], laidTests := true, laidLooks := .later }
def FnFractionsUptoCardSaid : Prop := Claim7.holds Tryd.pinned (.plain (OpenSpec.upto fnFractionsSpec)) fnFractionsUptoCard

/-- THE SECOND FORM's CARD OF 'laws.FnExactJournalOf'. -/
def fnExactJournalOfUptoCard : Claim7 := { stood := { row := fnExactJournalOfUptoRow, standIns := [], harness := (true, "90c48f71e9f6e54c8f59ee368853e3c1aaf8b67216559c930eee1f062daf73a7"), looks := true }, kinds := [], alts := [], laidByText := true, laidKinds := [.data, .data, .data], laidTests := true, laidLooks := .later }
def FnExactJournalOfUptoCardSaid : Prop := Claim7.holds Tryd.pinned (.plain (OpenSpec.upto fnExactJournalOfSpec)) fnExactJournalOfUptoCard

/-- THE SECOND FORM's CARD OF 'laws.FnExactRecoverJournal'. -/
def fnExactRecoverJournalUptoCard : Claim7 := { stood := { row := fnExactRecoverJournalUptoRow, standIns := [], harness := (true, "90c48f71e9f6e54c8f59ee368853e3c1aaf8b67216559c930eee1f062daf73a7"), looks := true }, kinds := [], alts := [], laidByText := true, laidKinds := [.data, .data, .data], laidTests := true, laidLooks := .later }
def FnExactRecoverJournalUptoCardSaid : Prop := Claim7.holds Tryd.pinned (.plain (OpenSpec.upto fnExactRecoverJournalSpec)) fnExactRecoverJournalUptoCard

/-- THE SECOND FORM's CARD OF 'laws.FnJournal'. -/
def fnJournalUptoCard : Claim7 := { stood := { row := fnJournalUptoRow, standIns := [], harness := (true, "90c48f71e9f6e54c8f59ee368853e3c1aaf8b67216559c930eee1f062daf73a7"), looks := true }, kinds := [], alts := [], laidByText := true, laidKinds := [.data, .data, .data], laidTests := true, laidLooks := .later }
def FnJournalUptoCardSaid : Prop := Claim7.holds Tryd.pinned (.plain (OpenSpec.upto fnJournalSpec)) fnJournalUptoCard

/-- THE SECOND FORM's CARD OF 'laws.FnInterleaved'. -/
def fnInterleavedUptoCard : Claim7 := { stood := { row := fnInterleavedUptoRow, standIns := [], harness := (true, "90c48f71e9f6e54c8f59ee368853e3c1aaf8b67216559c930eee1f062daf73a7"), looks := true }, kinds := [], alts := [], laidByText := true, laidKinds := [.sentinel, .sentinel], laidTests := true, laidLooks := .later }
def FnInterleavedUptoCardSaid : Prop := Claim7.holds Tryd.pinned (.plain (OpenSpec.upto fnInterleavedSpec)) fnInterleavedUptoCard

/-- THE SECOND FORM's CARD OF 'laws.FnBursts'. -/
def fnBurstsUptoCard : Claim7 := { stood := { row := fnBurstsUptoRow, standIns := [], harness := (true, "90c48f71e9f6e54c8f59ee368853e3c1aaf8b67216559c930eee1f062daf73a7"), looks := true }, kinds := [], alts := [], laidByText := true, laidKinds := [.data, .sentinel], laidTests := true, laidLooks := .later }
def FnBurstsUptoCardSaid : Prop := Claim7.holds Tryd.pinned (.plain (OpenSpec.upto fnBurstsSpec)) fnBurstsUptoCard

/-- THE SECOND FORM's CARD OF 'laws.FnExactLongestRun'. -/
def fnExactLongestRunUptoCard : Claim7 := { stood := { row := fnExactLongestRunUptoRow, standIns := [], harness := (true, "90c48f71e9f6e54c8f59ee368853e3c1aaf8b67216559c930eee1f062daf73a7"), looks := true }, kinds := [], alts := [], laidByText := true, laidKinds := [.data, .pinned], laidTests := true, laidLooks := .later }
def FnExactLongestRunUptoCardSaid : Prop := Claim7.holds Tryd.pinned (.plain (OpenSpec.upto fnExactLongestRunSpec)) fnExactLongestRunUptoCard
end Rows
end Go.Proofs.YtnpigefbdadjfaaDoor
