/-
  DERIVED. GIVEN WITH THE SEED: THE CARDS: each row of YtkgfmpkpeipddaaDoorRows.lean that lists a variable, with what it lists TIED to the program's text (the seventh form; the later family's looks); each row that meets fmt, with fmt's text TOLD by the authors' own Lean function (tested against real Go, not proved from fmt's source: count such statements apart). THE CARD IS WHAT COUNTS. Prove the row's statement (the work); the ties are given (YtkgfmpkpeipddaaDoorTie.lean); close each card by the builder's one call (the guide's Derived/Test/ToyasCard.lean, 'card_holds'). Laid BY PROGRAM, IN A SANDBOX (cutbox-door.mjs). By AI agents, Wed Nov 11 2026. No macro, syntax, notation, axiom, sorry.
-/
import Derived.Test.YtkgfmpkpeipddaaDoorRows
import GoSem.ClaimSeven
namespace Go.Proofs.YtkgfmpkpeipddaaDoor
namespace Rows

/-- THE TIED CARD OF 'laws.FnExactBlockInterleave'. -/
def fnExactBlockInterleaveCard : Claim7 := { stood := { row := fnExactBlockInterleaveRow, standIns := [], harness := (true, "bdeddc653e6e4b2945a2b5f2385838ee7fbebb8991a61dff588e2c7c0576abd9"), looks := true }, kinds := [], alts := [], laidByText := true, laidKinds := [.sentinel], laidTests := true, laidLooks := .later }
def FnExactBlockInterleaveCardSaid : Prop := Claim7.holds Tryd.pinned (.plain (OpenSpec.ofChange fnExactBlockInterleaveSpec)) fnExactBlockInterleaveCard

/-- THE TIED CARD OF 'laws.FnExactBlockDeinterleave'. -/
def fnExactBlockDeinterleaveCard : Claim7 := { stood := { row := fnExactBlockDeinterleaveRow, standIns := [], harness := (true, "bdeddc653e6e4b2945a2b5f2385838ee7fbebb8991a61dff588e2c7c0576abd9"), looks := true }, kinds := [], alts := [], laidByText := true, laidKinds := [.sentinel], laidTests := true, laidLooks := .later }
def FnExactBlockDeinterleaveCardSaid : Prop := Claim7.holds Tryd.pinned (.plain (OpenSpec.ofChange fnExactBlockDeinterleaveSpec)) fnExactBlockDeinterleaveCard

/-- THE TIED CARD OF 'laws.FnExactPlaceBehind'. -/
def fnExactPlaceBehindCard : Claim7 := { stood := { row := fnExactPlaceBehindRow, standIns := [], harness := (true, "bdeddc653e6e4b2945a2b5f2385838ee7fbebb8991a61dff588e2c7c0576abd9"), looks := true }, kinds := [], alts := [], laidByText := true, laidKinds := [.sentinel], laidTests := true, laidLooks := .later }
def FnExactPlaceBehindCardSaid : Prop := Claim7.holds Tryd.pinned (.plain (OpenSpec.ofChange fnExactPlaceBehindSpec)) fnExactPlaceBehindCard

/-- THE TIED CARD OF 'laws.FnExactMostInRow'. -/
def fnExactMostInRowCard : Claim7 := { stood := { row := fnExactMostInRowRow, standIns := [], harness := (true, "bdeddc653e6e4b2945a2b5f2385838ee7fbebb8991a61dff588e2c7c0576abd9"), looks := true }, kinds := [], alts := [], laidByText := true, laidKinds := [.sentinel], laidTests := true, laidLooks := .later }
def FnExactMostInRowCardSaid : Prop := Claim7.holds Tryd.pinned (.plain (OpenSpec.ofChange fnExactMostInRowSpec)) fnExactMostInRowCard

/-- THE TIED CARD OF 'laws.FnExactLeastApart'. -/
def fnExactLeastApartCard : Claim7 := { stood := { row := fnExactLeastApartRow, standIns := [], harness := (true, "bdeddc653e6e4b2945a2b5f2385838ee7fbebb8991a61dff588e2c7c0576abd9"), looks := true }, kinds := [], alts := [], laidByText := true, laidKinds := [.sentinel, .sentinel], laidTests := true, laidLooks := .later }
def FnExactLeastApartCardSaid : Prop := Claim7.holds Tryd.pinned (.plain (OpenSpec.ofChange fnExactLeastApartSpec)) fnExactLeastApartCard

/-- THE TIED CARD OF 'laws.FnExactSlideInterleave'. -/
def fnExactSlideInterleaveCard : Claim7 := { stood := { row := fnExactSlideInterleaveRow, standIns := [], harness := (true, "bdeddc653e6e4b2945a2b5f2385838ee7fbebb8991a61dff588e2c7c0576abd9"), looks := true }, kinds := [], alts := [], laidByText := true, laidKinds := [.sentinel, .sentinel], laidTests := true, laidLooks := .later }
def FnExactSlideInterleaveCardSaid : Prop := Claim7.holds Tryd.pinned (.plain (OpenSpec.ofChange fnExactSlideInterleaveSpec)) fnExactSlideInterleaveCard

/-- THE TIED CARD OF 'laws.FnExactSlideDeinterleave'. -/
def fnExactSlideDeinterleaveCard : Claim7 := { stood := { row := fnExactSlideDeinterleaveRow, standIns := [], harness := (true, "bdeddc653e6e4b2945a2b5f2385838ee7fbebb8991a61dff588e2c7c0576abd9"), looks := true }, kinds := [], alts := [], laidByText := true, laidKinds := [.sentinel, .sentinel], laidTests := true, laidLooks := .later }
def FnExactSlideDeinterleaveCardSaid : Prop := Claim7.holds Tryd.pinned (.plain (OpenSpec.ofChange fnExactSlideDeinterleaveSpec)) fnExactSlideDeinterleaveCard

/-- THE TIED CARD OF 'laws.FnExactSlideDelay'. -/
def fnExactSlideDelayCard : Claim7 := { stood := { row := fnExactSlideDelayRow, standIns := [], harness := (true, "bdeddc653e6e4b2945a2b5f2385838ee7fbebb8991a61dff588e2c7c0576abd9"), looks := true }, kinds := [], alts := [], laidByText := true, laidKinds := [.sentinel], laidTests := true, laidLooks := .later }
def FnExactSlideDelayCardSaid : Prop := Claim7.holds Tryd.pinned (.plain (OpenSpec.ofChange fnExactSlideDelaySpec)) fnExactSlideDelayCard

/-- THE TIED CARD OF 'laws.FnExactShortestMissed'. -/
def fnExactShortestMissedCard : Claim7 := { stood := { row := fnExactShortestMissedRow, standIns := [], harness := (true, "bdeddc653e6e4b2945a2b5f2385838ee7fbebb8991a61dff588e2c7c0576abd9"), looks := true }, kinds := [], alts := [], laidByText := true, laidKinds := [.data], laidTests := true, laidLooks := .later }
def FnExactShortestMissedCardSaid : Prop := Claim7.holds Tryd.pinned (.plain (OpenSpec.ofChange fnExactShortestMissedSpec)) fnExactShortestMissedCard

/-- THE TIED CARD OF 'laws.FnInterleaved'. -/
def fnInterleavedCard : Claim7 := { stood := { row := fnInterleavedRow, standIns := [], harness := (true, "bdeddc653e6e4b2945a2b5f2385838ee7fbebb8991a61dff588e2c7c0576abd9"), looks := true }, kinds := [], alts := [], laidByText := true, laidKinds := [.sentinel, .sentinel], laidTests := true, laidLooks := .later }
def FnInterleavedCardSaid : Prop := Claim7.holds Tryd.pinned (.plain (OpenSpec.ofChange fnInterleavedSpec)) fnInterleavedCard

/-- THE TIED CARD OF 'laws.FnSlid'. -/
def fnSlidCard : Claim7 := { stood := { row := fnSlidRow, standIns := [], harness := (true, "bdeddc653e6e4b2945a2b5f2385838ee7fbebb8991a61dff588e2c7c0576abd9"), looks := true }, kinds := [], alts := [], laidByText := true, laidKinds := [.sentinel, .sentinel], laidTests := true, laidLooks := .later }
def FnSlidCardSaid : Prop := Claim7.holds Tryd.pinned (.plain (OpenSpec.ofChange fnSlidSpec)) fnSlidCard

/-- THE SECOND FORM's CARD OF 'laws.FnExactBlockInterleave'. -/
def fnExactBlockInterleaveUptoCard : Claim7 := { stood := { row := fnExactBlockInterleaveUptoRow, standIns := [], harness := (true, "bdeddc653e6e4b2945a2b5f2385838ee7fbebb8991a61dff588e2c7c0576abd9"), looks := true }, kinds := [], alts := [], laidByText := true, laidKinds := [.sentinel], laidTests := true, laidLooks := .later }
def FnExactBlockInterleaveUptoCardSaid : Prop := Claim7.holds Tryd.pinned (.plain (OpenSpec.upto fnExactBlockInterleaveSpec)) fnExactBlockInterleaveUptoCard

/-- THE SECOND FORM's CARD OF 'laws.FnExactBlockDeinterleave'. -/
def fnExactBlockDeinterleaveUptoCard : Claim7 := { stood := { row := fnExactBlockDeinterleaveUptoRow, standIns := [], harness := (true, "bdeddc653e6e4b2945a2b5f2385838ee7fbebb8991a61dff588e2c7c0576abd9"), looks := true }, kinds := [], alts := [], laidByText := true, laidKinds := [.sentinel], laidTests := true, laidLooks := .later }
def FnExactBlockDeinterleaveUptoCardSaid : Prop := Claim7.holds Tryd.pinned (.plain (OpenSpec.upto fnExactBlockDeinterleaveSpec)) fnExactBlockDeinterleaveUptoCard

/-- THE SECOND FORM's CARD OF 'laws.FnExactPlaceBehind'. -/
def fnExactPlaceBehindUptoCard : Claim7 := { stood := { row := fnExactPlaceBehindUptoRow, standIns := [], harness := (true, "bdeddc653e6e4b2945a2b5f2385838ee7fbebb8991a61dff588e2c7c0576abd9"), looks := true }, kinds := [], alts := [], laidByText := true, laidKinds := [.sentinel], laidTests := true, laidLooks := .later }
def FnExactPlaceBehindUptoCardSaid : Prop := Claim7.holds Tryd.pinned (.plain (OpenSpec.upto fnExactPlaceBehindSpec)) fnExactPlaceBehindUptoCard

/-- THE SECOND FORM's CARD OF 'laws.FnExactMostInRow'. -/
def fnExactMostInRowUptoCard : Claim7 := { stood := { row := fnExactMostInRowUptoRow, standIns := [], harness := (true, "bdeddc653e6e4b2945a2b5f2385838ee7fbebb8991a61dff588e2c7c0576abd9"), looks := true }, kinds := [], alts := [], laidByText := true, laidKinds := [.sentinel], laidTests := true, laidLooks := .later }
def FnExactMostInRowUptoCardSaid : Prop := Claim7.holds Tryd.pinned (.plain (OpenSpec.upto fnExactMostInRowSpec)) fnExactMostInRowUptoCard

/-- THE SECOND FORM's CARD OF 'laws.FnExactLeastApart'. -/
def fnExactLeastApartUptoCard : Claim7 := { stood := { row := fnExactLeastApartUptoRow, standIns := [], harness := (true, "bdeddc653e6e4b2945a2b5f2385838ee7fbebb8991a61dff588e2c7c0576abd9"), looks := true }, kinds := [], alts := [], laidByText := true, laidKinds := [.sentinel, .sentinel], laidTests := true, laidLooks := .later }
def FnExactLeastApartUptoCardSaid : Prop := Claim7.holds Tryd.pinned (.plain (OpenSpec.upto fnExactLeastApartSpec)) fnExactLeastApartUptoCard

/-- THE SECOND FORM's CARD OF 'laws.FnExactSlideInterleave'. -/
def fnExactSlideInterleaveUptoCard : Claim7 := { stood := { row := fnExactSlideInterleaveUptoRow, standIns := [], harness := (true, "bdeddc653e6e4b2945a2b5f2385838ee7fbebb8991a61dff588e2c7c0576abd9"), looks := true }, kinds := [], alts := [], laidByText := true, laidKinds := [.sentinel, .sentinel], laidTests := true, laidLooks := .later }
def FnExactSlideInterleaveUptoCardSaid : Prop := Claim7.holds Tryd.pinned (.plain (OpenSpec.upto fnExactSlideInterleaveSpec)) fnExactSlideInterleaveUptoCard

/-- THE SECOND FORM's CARD OF 'laws.FnExactSlideDeinterleave'. -/
def fnExactSlideDeinterleaveUptoCard : Claim7 := { stood := { row := fnExactSlideDeinterleaveUptoRow, standIns := [], harness := (true, "bdeddc653e6e4b2945a2b5f2385838ee7fbebb8991a61dff588e2c7c0576abd9"), looks := true }, kinds := [], alts := [], laidByText := true, laidKinds := [.sentinel, .sentinel], laidTests := true, laidLooks := .later }
def FnExactSlideDeinterleaveUptoCardSaid : Prop := Claim7.holds Tryd.pinned (.plain (OpenSpec.upto fnExactSlideDeinterleaveSpec)) fnExactSlideDeinterleaveUptoCard

/-- THE SECOND FORM's CARD OF 'laws.FnExactSlideDelay'. -/
def fnExactSlideDelayUptoCard : Claim7 := { stood := { row := fnExactSlideDelayUptoRow, standIns := [], harness := (true, "bdeddc653e6e4b2945a2b5f2385838ee7fbebb8991a61dff588e2c7c0576abd9"), looks := true }, kinds := [], alts := [], laidByText := true, laidKinds := [.sentinel], laidTests := true, laidLooks := .later }
def FnExactSlideDelayUptoCardSaid : Prop := Claim7.holds Tryd.pinned (.plain (OpenSpec.upto fnExactSlideDelaySpec)) fnExactSlideDelayUptoCard

/-- THE SECOND FORM's CARD OF 'laws.FnExactShortestMissed'. -/
def fnExactShortestMissedUptoCard : Claim7 := { stood := { row := fnExactShortestMissedUptoRow, standIns := [], harness := (true, "bdeddc653e6e4b2945a2b5f2385838ee7fbebb8991a61dff588e2c7c0576abd9"), looks := true }, kinds := [], alts := [], laidByText := true, laidKinds := [.data], laidTests := true, laidLooks := .later }
def FnExactShortestMissedUptoCardSaid : Prop := Claim7.holds Tryd.pinned (.plain (OpenSpec.upto fnExactShortestMissedSpec)) fnExactShortestMissedUptoCard

/-- THE SECOND FORM's CARD OF 'laws.FnInterleaved'. -/
def fnInterleavedUptoCard : Claim7 := { stood := { row := fnInterleavedUptoRow, standIns := [], harness := (true, "bdeddc653e6e4b2945a2b5f2385838ee7fbebb8991a61dff588e2c7c0576abd9"), looks := true }, kinds := [], alts := [], laidByText := true, laidKinds := [.sentinel, .sentinel], laidTests := true, laidLooks := .later }
def FnInterleavedUptoCardSaid : Prop := Claim7.holds Tryd.pinned (.plain (OpenSpec.upto fnInterleavedSpec)) fnInterleavedUptoCard

/-- THE SECOND FORM's CARD OF 'laws.FnSlid'. -/
def fnSlidUptoCard : Claim7 := { stood := { row := fnSlidUptoRow, standIns := [], harness := (true, "bdeddc653e6e4b2945a2b5f2385838ee7fbebb8991a61dff588e2c7c0576abd9"), looks := true }, kinds := [], alts := [], laidByText := true, laidKinds := [.sentinel, .sentinel], laidTests := true, laidLooks := .later }
def FnSlidUptoCardSaid : Prop := Claim7.holds Tryd.pinned (.plain (OpenSpec.upto fnSlidSpec)) fnSlidUptoCard
end Rows
end Go.Proofs.YtkgfmpkpeipddaaDoor
