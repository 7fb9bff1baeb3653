/-
  NARROWER THAN 'FOR EVERY INPUT', by the rows' own cells (each row's printed sentence says how): FnExactBlockInterleave: ifaces, laid · FnExactBlockDeinterleave: ifaces, laid · FnExactPlaceBehind: ifaces, laid · FnExactMostInRow: ifaces, laid · FnExactLeastApart: ifaces, laid · FnExactSlideInterleave: ifaces, laid · FnExactSlideDeinterleave: ifaces, laid · FnExactSlideDelay: ifaces, laid · FnExactShortestMissed: laid · FnInterleaved: ifaces, laid · FnSlid: ifaces, laid.
  DERIVED. THE GIVEN ROWS OF THIS SEAT. 11 by the template 'for every input the law returns true; each argument reads behind the call as it read before'; 0 by the template 'total and deterministic' (their statements: YtkgfmpkpeipddaaDoorTotals.lean).
  GIVEN WITH THE SEED: the statements are not yours to turn. If you find one false, say at which input.
  Laid BY PROGRAM, IN A SANDBOX (cutbox-rows.mjs): the forced cells as the released guide's own fill.sh prints them over the translation 263e915982e92896… (all of the seat's roots in one cut). By AI agents, Wed Nov 11 2026. No macro, syntax, notation, axiom, sorry.
-/
import Derived.Test.YtkgfmpkpeipddaaDoorChecked
import GoSem.Claim
import GoSem.ClaimJoined
import GoSem.ClaimMapViews
import Derived.JoinedTies
import Derived.KernelRfl
namespace Go.Proofs.YtkgfmpkpeipddaaDoor
/- THE CELL 'sum', in the pinned program and in every row, IS THE sha256 OF THE DUMP (.gsa) THAT YtkgfmpkpeipddaaDoorProg.lean LOADS. Nothing in Lean hashes anything: it is a label: what it is worth is what the hold of that sum in a sandbox is worth. -/
noncomputable def Tryd.pinned : Pinned := { name := "ytkgfmpkpeipddaadoor", sum := "263e915982e928960b80da0cda155b9f8501d6e3389f6bc31458285e2a7fc079", checked := Tryd.checked }
namespace Rows
def none {H : Type} : Left H := { results := [], args := [] }

/- WHAT THE LISTED PACKAGE-LEVEL VARIABLES READ AS WHEN THE CALL BEGINS. Each datum BY PROGRAM (the guide's laid-datum.mjs) off the statement by which the dump's own 'gosem.cut.vars' lays the variable. In a bare row this is a premise. The card (YtkgfmpkpeipddaaDoorCards.lean) ties it to the program's text. -/
def laid_loop_example_g01142_impl_errInvalid {H : Type} : DataW H := .iface "*errors.errorString" (.ptr (.agg [.lit (.string [97, 110, 32, 97, 114, 103, 117, 109, 101, 110, 116, 32, 105, 115, 32, 110, 111, 116, 32, 97, 115, 32, 105, 116, 32, 109, 117, 115, 116, 32, 98, 101])]))
def laid_loop_example_g01142_impl_errNone {H : Type} : DataW H := .iface "*errors.errorString" (.ptr (.agg [.lit (.string [116, 104, 101, 114, 101, 32, 105, 115, 32, 110, 111, 110, 101])]))
def laid_math_bits_deBruijn64tab {H : Type} : DataW H := .agg [.lit (.int .u8 0), .lit (.int .u8 1), .lit (.int .u8 56), .lit (.int .u8 2), .lit (.int .u8 57), .lit (.int .u8 49), .lit (.int .u8 28), .lit (.int .u8 3), .lit (.int .u8 61), .lit (.int .u8 58), .lit (.int .u8 42), .lit (.int .u8 50), .lit (.int .u8 38), .lit (.int .u8 29), .lit (.int .u8 17), .lit (.int .u8 4), .lit (.int .u8 62), .lit (.int .u8 47), .lit (.int .u8 59), .lit (.int .u8 36), .lit (.int .u8 45), .lit (.int .u8 43), .lit (.int .u8 51), .lit (.int .u8 22), .lit (.int .u8 53), .lit (.int .u8 39), .lit (.int .u8 33), .lit (.int .u8 30), .lit (.int .u8 24), .lit (.int .u8 18), .lit (.int .u8 12), .lit (.int .u8 5), .lit (.int .u8 63), .lit (.int .u8 55), .lit (.int .u8 48), .lit (.int .u8 27), .lit (.int .u8 60), .lit (.int .u8 41), .lit (.int .u8 37), .lit (.int .u8 16), .lit (.int .u8 46), .lit (.int .u8 35), .lit (.int .u8 44), .lit (.int .u8 21), .lit (.int .u8 52), .lit (.int .u8 32), .lit (.int .u8 23), .lit (.int .u8 11), .lit (.int .u8 54), .lit (.int .u8 26), .lit (.int .u8 40), .lit (.int .u8 15), .lit (.int .u8 34), .lit (.int .u8 20), .lit (.int .u8 31), .lit (.int .u8 10), .lit (.int .u8 25), .lit (.int .u8 14), .lit (.int .u8 19), .lit (.int .u8 9), .lit (.int .u8 13), .lit (.int .u8 8), .lit (.int .u8 7), .lit (.int .u8 6)]

/-- 'laws.FnExactBlockInterleave': WHATEVER THE INPUT: true; the input reads as it did. -/
def fnExactBlockInterleaveSpec : ChangeSpec := { name := "fnExactBlockInterleave", vars := ["loop.example/g01142/impl.errInvalid"], fn := fun _ => fun
  | [d1, d2, d3, g1] => { results := [.lit (.bool true)], args := [d1, d2, d3], vars := [g1] }
  | _ => none }
def fnExactBlockInterleaveRow : OpenClaim := { program := "ytkgfmpkpeipddaadoor", sum := "263e915982e928960b80da0cda155b9f8501d6e3389f6bc31458285e2a7fc079", func := "loop.example/g01142/laws.FnExactBlockInterleave", spec := "fnExactBlockInterleave", unfollowed := true, recurses := true, named := ["loop.example/g01142/impl.errInvalid"], ifaces := true, apart := false, laid := [("loop.example/g01142/impl.errInvalid", laid_loop_example_g01142_impl_errInvalid)] }
def FnExactBlockInterleaveSaid : Prop := fnExactBlockInterleaveRow.holds Tryd.pinned (OpenSpec.ofChange fnExactBlockInterleaveSpec)

/-- ITS FALSE NEIGHBOUR: 'it returns false'. Refute it at one input. -/
def fnExactBlockInterleaveWrong : ChangeSpec := { name := "fnExactBlockInterleave", vars := ["loop.example/g01142/impl.errInvalid"], fn := fun _ => fun
  | [d1, d2, d3, g1] => { results := [.lit (.bool false)], args := [d1, d2, d3], vars := [g1] }
  | _ => none }
def FnExactBlockInterleaveWrongFalsely : Prop := fnExactBlockInterleaveRow.holds Tryd.pinned (OpenSpec.ofChange fnExactBlockInterleaveWrong)

/-- 'laws.FnExactBlockDeinterleave': WHATEVER THE INPUT: true; the input reads as it did. -/
def fnExactBlockDeinterleaveSpec : ChangeSpec := { name := "fnExactBlockDeinterleave", vars := ["loop.example/g01142/impl.errInvalid"], fn := fun _ => fun
  | [d1, d2, d3, g1] => { results := [.lit (.bool true)], args := [d1, d2, d3], vars := [g1] }
  | _ => none }
def fnExactBlockDeinterleaveRow : OpenClaim := { program := "ytkgfmpkpeipddaadoor", sum := "263e915982e928960b80da0cda155b9f8501d6e3389f6bc31458285e2a7fc079", func := "loop.example/g01142/laws.FnExactBlockDeinterleave", spec := "fnExactBlockDeinterleave", unfollowed := true, recurses := true, named := ["loop.example/g01142/impl.errInvalid"], ifaces := true, apart := false, laid := [("loop.example/g01142/impl.errInvalid", laid_loop_example_g01142_impl_errInvalid)] }
def FnExactBlockDeinterleaveSaid : Prop := fnExactBlockDeinterleaveRow.holds Tryd.pinned (OpenSpec.ofChange fnExactBlockDeinterleaveSpec)

/-- ITS FALSE NEIGHBOUR: 'it returns false'. Refute it at one input. -/
def fnExactBlockDeinterleaveWrong : ChangeSpec := { name := "fnExactBlockDeinterleave", vars := ["loop.example/g01142/impl.errInvalid"], fn := fun _ => fun
  | [d1, d2, d3, g1] => { results := [.lit (.bool false)], args := [d1, d2, d3], vars := [g1] }
  | _ => none }
def FnExactBlockDeinterleaveWrongFalsely : Prop := fnExactBlockDeinterleaveRow.holds Tryd.pinned (OpenSpec.ofChange fnExactBlockDeinterleaveWrong)

/-- 'laws.FnExactPlaceBehind': WHATEVER THE INPUT: true; the input reads as it did. -/
def fnExactPlaceBehindSpec : ChangeSpec := { name := "fnExactPlaceBehind", vars := ["loop.example/g01142/impl.errInvalid"], fn := fun _ => fun
  | [d1, d2, d3, g1] => { results := [.lit (.bool true)], args := [d1, d2, d3], vars := [g1] }
  | _ => none }
def fnExactPlaceBehindRow : OpenClaim := { program := "ytkgfmpkpeipddaadoor", sum := "263e915982e928960b80da0cda155b9f8501d6e3389f6bc31458285e2a7fc079", func := "loop.example/g01142/laws.FnExactPlaceBehind", spec := "fnExactPlaceBehind", named := ["loop.example/g01142/impl.errInvalid"], ifaces := true, apart := false, laid := [("loop.example/g01142/impl.errInvalid", laid_loop_example_g01142_impl_errInvalid)] }
def FnExactPlaceBehindSaid : Prop := fnExactPlaceBehindRow.holds Tryd.pinned (OpenSpec.ofChange fnExactPlaceBehindSpec)

/-- ITS FALSE NEIGHBOUR: 'it returns false'. Refute it at one input. -/
def fnExactPlaceBehindWrong : ChangeSpec := { name := "fnExactPlaceBehind", vars := ["loop.example/g01142/impl.errInvalid"], fn := fun _ => fun
  | [d1, d2, d3, g1] => { results := [.lit (.bool false)], args := [d1, d2, d3], vars := [g1] }
  | _ => none }
def FnExactPlaceBehindWrongFalsely : Prop := fnExactPlaceBehindRow.holds Tryd.pinned (OpenSpec.ofChange fnExactPlaceBehindWrong)

/-- 'laws.FnExactMostInRow': WHATEVER THE INPUT: true; the input reads as it did. -/
def fnExactMostInRowSpec : ChangeSpec := { name := "fnExactMostInRow", vars := ["loop.example/g01142/impl.errInvalid"], fn := fun _ => fun
  | [d1, d2, d3, g1] => { results := [.lit (.bool true)], args := [d1, d2, d3], vars := [g1] }
  | _ => none }
def fnExactMostInRowRow : OpenClaim := { program := "ytkgfmpkpeipddaadoor", sum := "263e915982e928960b80da0cda155b9f8501d6e3389f6bc31458285e2a7fc079", func := "loop.example/g01142/laws.FnExactMostInRow", spec := "fnExactMostInRow", named := ["loop.example/g01142/impl.errInvalid"], ifaces := true, apart := false, laid := [("loop.example/g01142/impl.errInvalid", laid_loop_example_g01142_impl_errInvalid)] }
def FnExactMostInRowSaid : Prop := fnExactMostInRowRow.holds Tryd.pinned (OpenSpec.ofChange fnExactMostInRowSpec)

/-- ITS FALSE NEIGHBOUR: 'it returns false'. Refute it at one input. -/
def fnExactMostInRowWrong : ChangeSpec := { name := "fnExactMostInRow", vars := ["loop.example/g01142/impl.errInvalid"], fn := fun _ => fun
  | [d1, d2, d3, g1] => { results := [.lit (.bool false)], args := [d1, d2, d3], vars := [g1] }
  | _ => none }
def FnExactMostInRowWrongFalsely : Prop := fnExactMostInRowRow.holds Tryd.pinned (OpenSpec.ofChange fnExactMostInRowWrong)

/-- 'laws.FnExactLeastApart': WHATEVER THE INPUT: true; the input reads as it did. -/
def fnExactLeastApartSpec : ChangeSpec := { name := "fnExactLeastApart", vars := ["loop.example/g01142/impl.errInvalid", "loop.example/g01142/impl.errNone"], fn := fun _ => fun
  | [d1, d2, d3, g1, g2] => { results := [.lit (.bool true)], args := [d1, d2, d3], vars := [g1, g2] }
  | _ => none }
def fnExactLeastApartRow : OpenClaim := { program := "ytkgfmpkpeipddaadoor", sum := "263e915982e928960b80da0cda155b9f8501d6e3389f6bc31458285e2a7fc079", func := "loop.example/g01142/laws.FnExactLeastApart", spec := "fnExactLeastApart", unfollowed := true, recurses := true, named := ["loop.example/g01142/impl.errInvalid", "loop.example/g01142/impl.errNone"], ifaces := true, apart := false, laid := [("loop.example/g01142/impl.errInvalid", laid_loop_example_g01142_impl_errInvalid), ("loop.example/g01142/impl.errNone", laid_loop_example_g01142_impl_errNone)] }
def FnExactLeastApartSaid : Prop := fnExactLeastApartRow.holds Tryd.pinned (OpenSpec.ofChange fnExactLeastApartSpec)

/-- ITS FALSE NEIGHBOUR: 'it returns false'. Refute it at one input. -/
def fnExactLeastApartWrong : ChangeSpec := { name := "fnExactLeastApart", vars := ["loop.example/g01142/impl.errInvalid", "loop.example/g01142/impl.errNone"], fn := fun _ => fun
  | [d1, d2, d3, g1, g2] => { results := [.lit (.bool false)], args := [d1, d2, d3], vars := [g1, g2] }
  | _ => none }
def FnExactLeastApartWrongFalsely : Prop := fnExactLeastApartRow.holds Tryd.pinned (OpenSpec.ofChange fnExactLeastApartWrong)

/-- 'laws.FnExactSlideInterleave': WHATEVER THE INPUT: true; the input reads as it did. -/
def fnExactSlideInterleaveSpec : ChangeSpec := { name := "fnExactSlideInterleave", vars := ["loop.example/g01142/impl.errInvalid", "loop.example/g01142/impl.errNone"], fn := fun _ => fun
  | [d1, d2, d3, g1, g2] => { results := [.lit (.bool true)], args := [d1, d2, d3], vars := [g1, g2] }
  | _ => none }
def fnExactSlideInterleaveRow : OpenClaim := { program := "ytkgfmpkpeipddaadoor", sum := "263e915982e928960b80da0cda155b9f8501d6e3389f6bc31458285e2a7fc079", func := "loop.example/g01142/laws.FnExactSlideInterleave", spec := "fnExactSlideInterleave", inPlace := ["internal/reflectlite.TypeOf", "internal/abi.NoEscape"], unfollowed := true, recurses := true, named := ["loop.example/g01142/impl.errInvalid", "loop.example/g01142/impl.errNone"], ifaces := true, apart := false, laid := [("loop.example/g01142/impl.errInvalid", laid_loop_example_g01142_impl_errInvalid), ("loop.example/g01142/impl.errNone", laid_loop_example_g01142_impl_errNone)] }
def FnExactSlideInterleaveSaid : Prop := fnExactSlideInterleaveRow.holds Tryd.pinned (OpenSpec.ofChange fnExactSlideInterleaveSpec)

/-- ITS FALSE NEIGHBOUR: 'it returns false'. Refute it at one input. -/
def fnExactSlideInterleaveWrong : ChangeSpec := { name := "fnExactSlideInterleave", vars := ["loop.example/g01142/impl.errInvalid", "loop.example/g01142/impl.errNone"], fn := fun _ => fun
  | [d1, d2, d3, g1, g2] => { results := [.lit (.bool false)], args := [d1, d2, d3], vars := [g1, g2] }
  | _ => none }
def FnExactSlideInterleaveWrongFalsely : Prop := fnExactSlideInterleaveRow.holds Tryd.pinned (OpenSpec.ofChange fnExactSlideInterleaveWrong)

/-- 'laws.FnExactSlideDeinterleave': WHATEVER THE INPUT: true; the input reads as it did. -/
def fnExactSlideDeinterleaveSpec : ChangeSpec := { name := "fnExactSlideDeinterleave", vars := ["loop.example/g01142/impl.errInvalid", "loop.example/g01142/impl.errNone"], fn := fun _ => fun
  | [d1, d2, d3, g1, g2] => { results := [.lit (.bool true)], args := [d1, d2, d3], vars := [g1, g2] }
  | _ => none }
def fnExactSlideDeinterleaveRow : OpenClaim := { program := "ytkgfmpkpeipddaadoor", sum := "263e915982e928960b80da0cda155b9f8501d6e3389f6bc31458285e2a7fc079", func := "loop.example/g01142/laws.FnExactSlideDeinterleave", spec := "fnExactSlideDeinterleave", inPlace := ["internal/reflectlite.TypeOf", "internal/abi.NoEscape"], unfollowed := true, recurses := true, named := ["loop.example/g01142/impl.errInvalid", "loop.example/g01142/impl.errNone"], ifaces := true, apart := false, laid := [("loop.example/g01142/impl.errInvalid", laid_loop_example_g01142_impl_errInvalid), ("loop.example/g01142/impl.errNone", laid_loop_example_g01142_impl_errNone)] }
def FnExactSlideDeinterleaveSaid : Prop := fnExactSlideDeinterleaveRow.holds Tryd.pinned (OpenSpec.ofChange fnExactSlideDeinterleaveSpec)

/-- ITS FALSE NEIGHBOUR: 'it returns false'. Refute it at one input. -/
def fnExactSlideDeinterleaveWrong : ChangeSpec := { name := "fnExactSlideDeinterleave", vars := ["loop.example/g01142/impl.errInvalid", "loop.example/g01142/impl.errNone"], fn := fun _ => fun
  | [d1, d2, d3, g1, g2] => { results := [.lit (.bool false)], args := [d1, d2, d3], vars := [g1, g2] }
  | _ => none }
def FnExactSlideDeinterleaveWrongFalsely : Prop := fnExactSlideDeinterleaveRow.holds Tryd.pinned (OpenSpec.ofChange fnExactSlideDeinterleaveWrong)

/-- 'laws.FnExactSlideDelay': WHATEVER THE INPUT: true; the input reads as it did. -/
def fnExactSlideDelaySpec : ChangeSpec := { name := "fnExactSlideDelay", vars := ["loop.example/g01142/impl.errInvalid"], fn := fun _ => fun
  | [d1, d2, g1] => { results := [.lit (.bool true)], args := [d1, d2], vars := [g1] }
  | _ => none }
def fnExactSlideDelayRow : OpenClaim := { program := "ytkgfmpkpeipddaadoor", sum := "263e915982e928960b80da0cda155b9f8501d6e3389f6bc31458285e2a7fc079", func := "loop.example/g01142/laws.FnExactSlideDelay", spec := "fnExactSlideDelay", named := ["loop.example/g01142/impl.errInvalid"], ifaces := true, apart := false, laid := [("loop.example/g01142/impl.errInvalid", laid_loop_example_g01142_impl_errInvalid)] }
def FnExactSlideDelaySaid : Prop := fnExactSlideDelayRow.holds Tryd.pinned (OpenSpec.ofChange fnExactSlideDelaySpec)

/-- ITS FALSE NEIGHBOUR: 'it returns false'. Refute it at one input. -/
def fnExactSlideDelayWrong : ChangeSpec := { name := "fnExactSlideDelay", vars := ["loop.example/g01142/impl.errInvalid"], fn := fun _ => fun
  | [d1, d2, g1] => { results := [.lit (.bool false)], args := [d1, d2], vars := [g1] }
  | _ => none }
def FnExactSlideDelayWrongFalsely : Prop := fnExactSlideDelayRow.holds Tryd.pinned (OpenSpec.ofChange fnExactSlideDelayWrong)

/-- 'laws.FnExactShortestMissed': WHATEVER THE INPUT: true; the input reads as it did. -/
def fnExactShortestMissedSpec : ChangeSpec := { name := "fnExactShortestMissed", fn := fun _ => fun
  | [d] => { results := [.lit (.bool true)], args := [d] }
  | _ => none }
def fnExactShortestMissedRow : OpenClaim := { program := "ytkgfmpkpeipddaadoor", sum := "263e915982e928960b80da0cda155b9f8501d6e3389f6bc31458285e2a7fc079", func := "loop.example/g01142/laws.FnExactShortestMissed", spec := "fnExactShortestMissed", named := ["math/bits.deBruijn64tab"], apart := false, laid := [("math/bits.deBruijn64tab", laid_math_bits_deBruijn64tab)] }
def FnExactShortestMissedSaid : Prop := fnExactShortestMissedRow.holds Tryd.pinned (OpenSpec.ofChange fnExactShortestMissedSpec)

/-- ITS FALSE NEIGHBOUR: 'it returns false'. Refute it at one input. -/
def fnExactShortestMissedWrong : ChangeSpec := { name := "fnExactShortestMissed", fn := fun _ => fun
  | [d] => { results := [.lit (.bool false)], args := [d] }
  | _ => none }
def FnExactShortestMissedWrongFalsely : Prop := fnExactShortestMissedRow.holds Tryd.pinned (OpenSpec.ofChange fnExactShortestMissedWrong)

/-- 'laws.FnInterleaved': WHATEVER THE INPUT: true; the input reads as it did. -/
def fnInterleavedSpec : ChangeSpec := { name := "fnInterleaved", vars := ["loop.example/g01142/impl.errInvalid", "loop.example/g01142/impl.errNone"], fn := fun _ => fun
  | [d1, d2, g1, g2] => { results := [.lit (.bool true)], args := [d1, d2], vars := [g1, g2] }
  | _ => none }
def fnInterleavedRow : OpenClaim := { program := "ytkgfmpkpeipddaadoor", sum := "263e915982e928960b80da0cda155b9f8501d6e3389f6bc31458285e2a7fc079", func := "loop.example/g01142/laws.FnInterleaved", spec := "fnInterleaved", unfollowed := true, recurses := true, named := ["loop.example/g01142/impl.errInvalid", "loop.example/g01142/impl.errNone"], ifaces := true, apart := false, laid := [("loop.example/g01142/impl.errInvalid", laid_loop_example_g01142_impl_errInvalid), ("loop.example/g01142/impl.errNone", laid_loop_example_g01142_impl_errNone)] }
def FnInterleavedSaid : Prop := fnInterleavedRow.holds Tryd.pinned (OpenSpec.ofChange fnInterleavedSpec)

/-- ITS FALSE NEIGHBOUR: 'it returns false'. Refute it at one input. -/
def fnInterleavedWrong : ChangeSpec := { name := "fnInterleaved", vars := ["loop.example/g01142/impl.errInvalid", "loop.example/g01142/impl.errNone"], fn := fun _ => fun
  | [d1, d2, g1, g2] => { results := [.lit (.bool false)], args := [d1, d2], vars := [g1, g2] }
  | _ => none }
def FnInterleavedWrongFalsely : Prop := fnInterleavedRow.holds Tryd.pinned (OpenSpec.ofChange fnInterleavedWrong)

/-- 'laws.FnSlid': WHATEVER THE INPUT: true; the input reads as it did. -/
def fnSlidSpec : ChangeSpec := { name := "fnSlid", vars := ["loop.example/g01142/impl.errInvalid", "loop.example/g01142/impl.errNone"], fn := fun _ => fun
  | [d1, d2, g1, g2] => { results := [.lit (.bool true)], args := [d1, d2], vars := [g1, g2] }
  | _ => none }
def fnSlidRow : OpenClaim := { program := "ytkgfmpkpeipddaadoor", sum := "263e915982e928960b80da0cda155b9f8501d6e3389f6bc31458285e2a7fc079", func := "loop.example/g01142/laws.FnSlid", spec := "fnSlid", inPlace := ["internal/reflectlite.TypeOf", "internal/abi.NoEscape"], unfollowed := true, recurses := true, named := ["loop.example/g01142/impl.errInvalid", "loop.example/g01142/impl.errNone"], ifaces := true, apart := false, laid := [("loop.example/g01142/impl.errInvalid", laid_loop_example_g01142_impl_errInvalid), ("loop.example/g01142/impl.errNone", laid_loop_example_g01142_impl_errNone)] }
def FnSlidSaid : Prop := fnSlidRow.holds Tryd.pinned (OpenSpec.ofChange fnSlidSpec)

/-- ITS FALSE NEIGHBOUR: 'it returns false'. Refute it at one input. -/
def fnSlidWrong : ChangeSpec := { name := "fnSlid", vars := ["loop.example/g01142/impl.errInvalid", "loop.example/g01142/impl.errNone"], fn := fun _ => fun
  | [d1, d2, g1, g2] => { results := [.lit (.bool false)], args := [d1, d2], vars := [g1, g2] }
  | _ => none }
def FnSlidWrongFalsely : Prop := fnSlidRow.holds Tryd.pinned (OpenSpec.ofChange fnSlidWrong)

/- THE SECOND FORM. 'bulk': how many values and letters a reading holds, each counted each time it is reached (what is shared counts as often as it is met; a slice's spare places count too). A statement '..UptoSaid' is the law's where the arguments, and the package variables that the reading takes, are together of bulk at most 1048576: NARROWER than '..Said'. Prove '..Said' where nothing that the law and all that it calls make is longer than what came in: it says more and counts as full. Else prove '..UptoSaid'. A law counts once. -/
mutual
def uptoBulk {H : Type} : DataW H → Nat
  | .lit (.string bytes) => bytes.length + 1
  | .lit _ => 1
  | .nil => 1
  | .ptr d => uptoBulk d + 1
  | .slice elems spare => uptoBulkAll elems + uptoBulkAll spare + 1
  | .agg parts => uptoBulkAll parts + 1
  | .iface _ d => uptoBulk d + 1
  | .map entries => uptoBulkEntries entries + 1
  | .held _ => 1
def uptoBulkAll {H : Type} : List (DataW H) → Nat
  | [] => 0
  | d :: r => uptoBulk d + uptoBulkAll r
def uptoBulkEntries {H : Type} : List (Lit × DataW H) → Nat
  | [] => 0
  | x :: r => uptoBulkEntry x + uptoBulkEntries r
def uptoBulkEntry {H : Type} : Lit × DataW H → Nat
  | (.string bytes, d) => bytes.length + uptoBulk d + 1
  | (_, d) => uptoBulk d + 1
 end
def uptoSmall : (H : Type) → List (DataW H) → Bool := fun _ ds => decide (uptoBulkAll ds ≤ 1048576)
def OpenSpec.upto (s : _root_.Go.ChangeSpec) : _root_.Go.OpenSpec := { _root_.Go.OpenSpec.ofChange s with cond := some uptoSmall }

/-- 'laws.FnExactBlockInterleave', WHERE WHAT IT READS IS OF BULK AT MOST 1048576: true; the input reads as it did. -/
def fnExactBlockInterleaveUptoRow : OpenClaim := { program := "ytkgfmpkpeipddaadoor", sum := "263e915982e928960b80da0cda155b9f8501d6e3389f6bc31458285e2a7fc079", func := "loop.example/g01142/laws.FnExactBlockInterleave", spec := "fnExactBlockInterleave", unfollowed := true, recurses := true, named := ["loop.example/g01142/impl.errInvalid"], ifaces := true, apart := false, laid := [("loop.example/g01142/impl.errInvalid", laid_loop_example_g01142_impl_errInvalid)], narrowed := true }
def FnExactBlockInterleaveUptoSaid : Prop := fnExactBlockInterleaveUptoRow.holds Tryd.pinned (OpenSpec.upto fnExactBlockInterleaveSpec)

/-- 'laws.FnExactBlockDeinterleave', WHERE WHAT IT READS IS OF BULK AT MOST 1048576: true; the input reads as it did. -/
def fnExactBlockDeinterleaveUptoRow : OpenClaim := { program := "ytkgfmpkpeipddaadoor", sum := "263e915982e928960b80da0cda155b9f8501d6e3389f6bc31458285e2a7fc079", func := "loop.example/g01142/laws.FnExactBlockDeinterleave", spec := "fnExactBlockDeinterleave", unfollowed := true, recurses := true, named := ["loop.example/g01142/impl.errInvalid"], ifaces := true, apart := false, laid := [("loop.example/g01142/impl.errInvalid", laid_loop_example_g01142_impl_errInvalid)], narrowed := true }
def FnExactBlockDeinterleaveUptoSaid : Prop := fnExactBlockDeinterleaveUptoRow.holds Tryd.pinned (OpenSpec.upto fnExactBlockDeinterleaveSpec)

/-- 'laws.FnExactPlaceBehind', WHERE WHAT IT READS IS OF BULK AT MOST 1048576: true; the input reads as it did. -/
def fnExactPlaceBehindUptoRow : OpenClaim := { program := "ytkgfmpkpeipddaadoor", sum := "263e915982e928960b80da0cda155b9f8501d6e3389f6bc31458285e2a7fc079", func := "loop.example/g01142/laws.FnExactPlaceBehind", spec := "fnExactPlaceBehind", named := ["loop.example/g01142/impl.errInvalid"], ifaces := true, apart := false, laid := [("loop.example/g01142/impl.errInvalid", laid_loop_example_g01142_impl_errInvalid)], narrowed := true }
def FnExactPlaceBehindUptoSaid : Prop := fnExactPlaceBehindUptoRow.holds Tryd.pinned (OpenSpec.upto fnExactPlaceBehindSpec)

/-- 'laws.FnExactMostInRow', WHERE WHAT IT READS IS OF BULK AT MOST 1048576: true; the input reads as it did. -/
def fnExactMostInRowUptoRow : OpenClaim := { program := "ytkgfmpkpeipddaadoor", sum := "263e915982e928960b80da0cda155b9f8501d6e3389f6bc31458285e2a7fc079", func := "loop.example/g01142/laws.FnExactMostInRow", spec := "fnExactMostInRow", named := ["loop.example/g01142/impl.errInvalid"], ifaces := true, apart := false, laid := [("loop.example/g01142/impl.errInvalid", laid_loop_example_g01142_impl_errInvalid)], narrowed := true }
def FnExactMostInRowUptoSaid : Prop := fnExactMostInRowUptoRow.holds Tryd.pinned (OpenSpec.upto fnExactMostInRowSpec)

/-- 'laws.FnExactLeastApart', WHERE WHAT IT READS IS OF BULK AT MOST 1048576: true; the input reads as it did. -/
def fnExactLeastApartUptoRow : OpenClaim := { program := "ytkgfmpkpeipddaadoor", sum := "263e915982e928960b80da0cda155b9f8501d6e3389f6bc31458285e2a7fc079", func := "loop.example/g01142/laws.FnExactLeastApart", spec := "fnExactLeastApart", unfollowed := true, recurses := true, named := ["loop.example/g01142/impl.errInvalid", "loop.example/g01142/impl.errNone"], ifaces := true, apart := false, laid := [("loop.example/g01142/impl.errInvalid", laid_loop_example_g01142_impl_errInvalid), ("loop.example/g01142/impl.errNone", laid_loop_example_g01142_impl_errNone)], narrowed := true }
def FnExactLeastApartUptoSaid : Prop := fnExactLeastApartUptoRow.holds Tryd.pinned (OpenSpec.upto fnExactLeastApartSpec)

/-- 'laws.FnExactSlideInterleave', WHERE WHAT IT READS IS OF BULK AT MOST 1048576: true; the input reads as it did. -/
def fnExactSlideInterleaveUptoRow : OpenClaim := { program := "ytkgfmpkpeipddaadoor", sum := "263e915982e928960b80da0cda155b9f8501d6e3389f6bc31458285e2a7fc079", func := "loop.example/g01142/laws.FnExactSlideInterleave", spec := "fnExactSlideInterleave", inPlace := ["internal/reflectlite.TypeOf", "internal/abi.NoEscape"], unfollowed := true, recurses := true, named := ["loop.example/g01142/impl.errInvalid", "loop.example/g01142/impl.errNone"], ifaces := true, apart := false, laid := [("loop.example/g01142/impl.errInvalid", laid_loop_example_g01142_impl_errInvalid), ("loop.example/g01142/impl.errNone", laid_loop_example_g01142_impl_errNone)], narrowed := true }
def FnExactSlideInterleaveUptoSaid : Prop := fnExactSlideInterleaveUptoRow.holds Tryd.pinned (OpenSpec.upto fnExactSlideInterleaveSpec)

/-- 'laws.FnExactSlideDeinterleave', WHERE WHAT IT READS IS OF BULK AT MOST 1048576: true; the input reads as it did. -/
def fnExactSlideDeinterleaveUptoRow : OpenClaim := { program := "ytkgfmpkpeipddaadoor", sum := "263e915982e928960b80da0cda155b9f8501d6e3389f6bc31458285e2a7fc079", func := "loop.example/g01142/laws.FnExactSlideDeinterleave", spec := "fnExactSlideDeinterleave", inPlace := ["internal/reflectlite.TypeOf", "internal/abi.NoEscape"], unfollowed := true, recurses := true, named := ["loop.example/g01142/impl.errInvalid", "loop.example/g01142/impl.errNone"], ifaces := true, apart := false, laid := [("loop.example/g01142/impl.errInvalid", laid_loop_example_g01142_impl_errInvalid), ("loop.example/g01142/impl.errNone", laid_loop_example_g01142_impl_errNone)], narrowed := true }
def FnExactSlideDeinterleaveUptoSaid : Prop := fnExactSlideDeinterleaveUptoRow.holds Tryd.pinned (OpenSpec.upto fnExactSlideDeinterleaveSpec)

/-- 'laws.FnExactSlideDelay', WHERE WHAT IT READS IS OF BULK AT MOST 1048576: true; the input reads as it did. -/
def fnExactSlideDelayUptoRow : OpenClaim := { program := "ytkgfmpkpeipddaadoor", sum := "263e915982e928960b80da0cda155b9f8501d6e3389f6bc31458285e2a7fc079", func := "loop.example/g01142/laws.FnExactSlideDelay", spec := "fnExactSlideDelay", named := ["loop.example/g01142/impl.errInvalid"], ifaces := true, apart := false, laid := [("loop.example/g01142/impl.errInvalid", laid_loop_example_g01142_impl_errInvalid)], narrowed := true }
def FnExactSlideDelayUptoSaid : Prop := fnExactSlideDelayUptoRow.holds Tryd.pinned (OpenSpec.upto fnExactSlideDelaySpec)

/-- 'laws.FnExactShortestMissed', WHERE WHAT IT READS IS OF BULK AT MOST 1048576: true; the input reads as it did. -/
def fnExactShortestMissedUptoRow : OpenClaim := { program := "ytkgfmpkpeipddaadoor", sum := "263e915982e928960b80da0cda155b9f8501d6e3389f6bc31458285e2a7fc079", func := "loop.example/g01142/laws.FnExactShortestMissed", spec := "fnExactShortestMissed", named := ["math/bits.deBruijn64tab"], apart := false, laid := [("math/bits.deBruijn64tab", laid_math_bits_deBruijn64tab)], narrowed := true }
def FnExactShortestMissedUptoSaid : Prop := fnExactShortestMissedUptoRow.holds Tryd.pinned (OpenSpec.upto fnExactShortestMissedSpec)

/-- 'laws.FnInterleaved', WHERE WHAT IT READS IS OF BULK AT MOST 1048576: true; the input reads as it did. -/
def fnInterleavedUptoRow : OpenClaim := { program := "ytkgfmpkpeipddaadoor", sum := "263e915982e928960b80da0cda155b9f8501d6e3389f6bc31458285e2a7fc079", func := "loop.example/g01142/laws.FnInterleaved", spec := "fnInterleaved", unfollowed := true, recurses := true, named := ["loop.example/g01142/impl.errInvalid", "loop.example/g01142/impl.errNone"], ifaces := true, apart := false, laid := [("loop.example/g01142/impl.errInvalid", laid_loop_example_g01142_impl_errInvalid), ("loop.example/g01142/impl.errNone", laid_loop_example_g01142_impl_errNone)], narrowed := true }
def FnInterleavedUptoSaid : Prop := fnInterleavedUptoRow.holds Tryd.pinned (OpenSpec.upto fnInterleavedSpec)

/-- 'laws.FnSlid', WHERE WHAT IT READS IS OF BULK AT MOST 1048576: true; the input reads as it did. -/
def fnSlidUptoRow : OpenClaim := { program := "ytkgfmpkpeipddaadoor", sum := "263e915982e928960b80da0cda155b9f8501d6e3389f6bc31458285e2a7fc079", func := "loop.example/g01142/laws.FnSlid", spec := "fnSlid", inPlace := ["internal/reflectlite.TypeOf", "internal/abi.NoEscape"], unfollowed := true, recurses := true, named := ["loop.example/g01142/impl.errInvalid", "loop.example/g01142/impl.errNone"], ifaces := true, apart := false, laid := [("loop.example/g01142/impl.errInvalid", laid_loop_example_g01142_impl_errInvalid), ("loop.example/g01142/impl.errNone", laid_loop_example_g01142_impl_errNone)], narrowed := true }
def FnSlidUptoSaid : Prop := fnSlidUptoRow.holds Tryd.pinned (OpenSpec.upto fnSlidSpec)

end Rows
end Go.Proofs.YtkgfmpkpeipddaaDoor
