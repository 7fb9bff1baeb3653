/-
  No cell of these rows narrows 'for every input' (looked for: loops, veiled, ifaces, maps, wideKeys, modest, calm, conditions, laid).
  DERIVED. THE GIVEN ROWS OF THIS SEAT. 12 by the template 'for every input the law returns true; each argument reads behind the call as it read before'; 0 by the template 'total and deterministic' (their statements: YtllkojakeoennabTotals.lean).
  GIVEN WITH THE SEED: the statements are not yours to turn. If you find one false, say at which input.
  Laid BY PROGRAM, IN A SANDBOX (cutbox-rows.mjs): the forced cells as the released guide's own fill.sh prints them over the translation 65a07b572f3c567c… (all of the seat's roots in one cut). By AI agents, Wed Nov 11 2026. No macro, syntax, notation, axiom, sorry.
-/
import Derived.Test.YtllkojakeoennabChecked
import GoSem.Claim
import GoSem.ClaimJoined
import GoSem.ClaimMapViews
import Derived.JoinedTies
import Derived.KernelRfl
namespace Go.Proofs.Ytllkojakeoennab
/- THE CELL 'sum', in the pinned program and in every row, IS THE sha256 OF THE DUMP (.gsa) THAT YtllkojakeoennabProg.lean LOADS. Nothing in Lean hashes anything: it is a label: what it is worth is what the hold of that sum in a sandbox is worth. -/
noncomputable def Try.pinned : Pinned := { name := "ytllkojakeoennab", sum := "65a07b572f3c567ceb20b0422ccb61d3bd6d13b6d231c66fde73a4e0f76b01ee", checked := Try.checked }
namespace Rows
def none {H : Type} : Left H := { results := [], args := [] }

/-- 'laws.FnExactEscapeBytes': WHATEVER THE INPUT: true; the input reads as it did. -/
def fnExactEscapeBytesSpec : ChangeSpec := { name := "fnExactEscapeBytes", fn := fun _ => fun
  | [d1, d2] => { results := [.lit (.bool true)], args := [d1, d2] }
  | _ => none }
def fnExactEscapeBytesRow : OpenClaim := { program := "ytllkojakeoennab", sum := "65a07b572f3c567ceb20b0422ccb61d3bd6d13b6d231c66fde73a4e0f76b01ee", func := "loop.example/g01142/laws.FnExactEscapeBytes", spec := "fnExactEscapeBytes", apart := false }
def FnExactEscapeBytesSaid : Prop := fnExactEscapeBytesRow.holds Try.pinned (OpenSpec.ofChange fnExactEscapeBytesSpec)

/-- ITS FALSE NEIGHBOUR: 'it returns false'. Refute it at one input. -/
def fnExactEscapeBytesWrong : ChangeSpec := { name := "fnExactEscapeBytes", fn := fun _ => fun
  | [d1, d2] => { results := [.lit (.bool false)], args := [d1, d2] }
  | _ => none }
def FnExactEscapeBytesWrongFalsely : Prop := fnExactEscapeBytesRow.holds Try.pinned (OpenSpec.ofChange fnExactEscapeBytesWrong)

/-- 'laws.FnExactUnescapeBytes': WHATEVER THE INPUT: true; the input reads as it did. -/
def fnExactUnescapeBytesSpec : ChangeSpec := { name := "fnExactUnescapeBytes", fn := fun _ => fun
  | [d1, d2] => { results := [.lit (.bool true)], args := [d1, d2] }
  | _ => none }
def fnExactUnescapeBytesRow : OpenClaim := { program := "ytllkojakeoennab", sum := "65a07b572f3c567ceb20b0422ccb61d3bd6d13b6d231c66fde73a4e0f76b01ee", func := "loop.example/g01142/laws.FnExactUnescapeBytes", spec := "fnExactUnescapeBytes", unfollowed := true, recurses := true, apart := false }
def FnExactUnescapeBytesSaid : Prop := fnExactUnescapeBytesRow.holds Try.pinned (OpenSpec.ofChange fnExactUnescapeBytesSpec)

/-- ITS FALSE NEIGHBOUR: 'it returns false'. Refute it at one input. -/
def fnExactUnescapeBytesWrong : ChangeSpec := { name := "fnExactUnescapeBytes", fn := fun _ => fun
  | [d1, d2] => { results := [.lit (.bool false)], args := [d1, d2] }
  | _ => none }
def FnExactUnescapeBytesWrongFalsely : Prop := fnExactUnescapeBytesRow.holds Try.pinned (OpenSpec.ofChange fnExactUnescapeBytesWrong)

/-- 'laws.FnExactCobsBytes': WHATEVER THE INPUT: true; the input reads as it did. -/
def fnExactCobsBytesSpec : ChangeSpec := { name := "fnExactCobsBytes", fn := fun _ => fun
  | [d] => { results := [.lit (.bool true)], args := [d] }
  | _ => none }
def fnExactCobsBytesRow : OpenClaim := { program := "ytllkojakeoennab", sum := "65a07b572f3c567ceb20b0422ccb61d3bd6d13b6d231c66fde73a4e0f76b01ee", func := "loop.example/g01142/laws.FnExactCobsBytes", spec := "fnExactCobsBytes", apart := false }
def FnExactCobsBytesSaid : Prop := fnExactCobsBytesRow.holds Try.pinned (OpenSpec.ofChange fnExactCobsBytesSpec)

/-- ITS FALSE NEIGHBOUR: 'it returns false'. Refute it at one input. -/
def fnExactCobsBytesWrong : ChangeSpec := { name := "fnExactCobsBytes", fn := fun _ => fun
  | [d] => { results := [.lit (.bool false)], args := [d] }
  | _ => none }
def FnExactCobsBytesWrongFalsely : Prop := fnExactCobsBytesRow.holds Try.pinned (OpenSpec.ofChange fnExactCobsBytesWrong)

/-- 'laws.FnExactUncobsBytes': WHATEVER THE INPUT: true; the input reads as it did. -/
def fnExactUncobsBytesSpec : ChangeSpec := { name := "fnExactUncobsBytes", fn := fun _ => fun
  | [d] => { results := [.lit (.bool true)], args := [d] }
  | _ => none }
def fnExactUncobsBytesRow : OpenClaim := { program := "ytllkojakeoennab", sum := "65a07b572f3c567ceb20b0422ccb61d3bd6d13b6d231c66fde73a4e0f76b01ee", func := "loop.example/g01142/laws.FnExactUncobsBytes", spec := "fnExactUncobsBytes", apart := false }
def FnExactUncobsBytesSaid : Prop := fnExactUncobsBytesRow.holds Try.pinned (OpenSpec.ofChange fnExactUncobsBytesSpec)

/-- ITS FALSE NEIGHBOUR: 'it returns false'. Refute it at one input. -/
def fnExactUncobsBytesWrong : ChangeSpec := { name := "fnExactUncobsBytes", fn := fun _ => fun
  | [d] => { results := [.lit (.bool false)], args := [d] }
  | _ => none }
def FnExactUncobsBytesWrongFalsely : Prop := fnExactUncobsBytesRow.holds Try.pinned (OpenSpec.ofChange fnExactUncobsBytesWrong)

/-- 'laws.FnEscaped': WHATEVER THE INPUT: true; the input reads as it did. -/
def fnEscapedSpec : ChangeSpec := { name := "fnEscaped", fn := fun _ => fun
  | [d1, d2] => { results := [.lit (.bool true)], args := [d1, d2] }
  | _ => none }
def fnEscapedRow : OpenClaim := { program := "ytllkojakeoennab", sum := "65a07b572f3c567ceb20b0422ccb61d3bd6d13b6d231c66fde73a4e0f76b01ee", func := "loop.example/g01142/laws.FnEscaped", spec := "fnEscaped", unfollowed := true, recurses := true, apart := false }
def FnEscapedSaid : Prop := fnEscapedRow.holds Try.pinned (OpenSpec.ofChange fnEscapedSpec)

/-- ITS FALSE NEIGHBOUR: 'it returns false'. Refute it at one input. -/
def fnEscapedWrong : ChangeSpec := { name := "fnEscaped", fn := fun _ => fun
  | [d1, d2] => { results := [.lit (.bool false)], args := [d1, d2] }
  | _ => none }
def FnEscapedWrongFalsely : Prop := fnEscapedRow.holds Try.pinned (OpenSpec.ofChange fnEscapedWrong)

/-- 'laws.FnExactMakeBlockCode': WHATEVER THE INPUT: true; the input reads as it did. -/
def fnExactMakeBlockCodeSpec : ChangeSpec := { name := "fnExactMakeBlockCode", fn := fun _ => fun
  | [d1, d2] => { results := [.lit (.bool true)], args := [d1, d2] }
  | _ => none }
def fnExactMakeBlockCodeRow : OpenClaim := { program := "ytllkojakeoennab", sum := "65a07b572f3c567ceb20b0422ccb61d3bd6d13b6d231c66fde73a4e0f76b01ee", func := "loop.example/g01142/laws.FnExactMakeBlockCode", spec := "fnExactMakeBlockCode", inPlace := ["internal/abi.NoEscape", "internal/bytealg.MakeNoZero", "internal/bytealg.CountString", "internal/bytealg.IndexByteString", "internal/bytealg.IndexString"], named := ["internal/bytealg.MaxLen"], apart := false }
def FnExactMakeBlockCodeSaid : Prop := fnExactMakeBlockCodeRow.holds Try.pinned (OpenSpec.ofChange fnExactMakeBlockCodeSpec)

/-- ITS FALSE NEIGHBOUR: 'it returns false'. Refute it at one input. -/
def fnExactMakeBlockCodeWrong : ChangeSpec := { name := "fnExactMakeBlockCode", fn := fun _ => fun
  | [d1, d2] => { results := [.lit (.bool false)], args := [d1, d2] }
  | _ => none }
def FnExactMakeBlockCodeWrongFalsely : Prop := fnExactMakeBlockCodeRow.holds Try.pinned (OpenSpec.ofChange fnExactMakeBlockCodeWrong)

/-- 'laws.FnExactSumRange': WHATEVER THE INPUT: true; the input reads as it did. -/
def fnExactSumRangeSpec : ChangeSpec := { name := "fnExactSumRange", fn := fun _ => fun
  | [d] => { results := [.lit (.bool true)], args := [d] }
  | _ => none }
def fnExactSumRangeRow : OpenClaim := { program := "ytllkojakeoennab", sum := "65a07b572f3c567ceb20b0422ccb61d3bd6d13b6d231c66fde73a4e0f76b01ee", func := "loop.example/g01142/laws.FnExactSumRange", spec := "fnExactSumRange", inPlace := ["internal/bytealg.CountString", "internal/bytealg.IndexByteString", "internal/bytealg.IndexString"], unfollowed := true, recurses := true, named := ["internal/bytealg.MaxLen"], apart := false }
def FnExactSumRangeSaid : Prop := fnExactSumRangeRow.holds Try.pinned (OpenSpec.ofChange fnExactSumRangeSpec)

/-- ITS FALSE NEIGHBOUR: 'it returns false'. Refute it at one input. -/
def fnExactSumRangeWrong : ChangeSpec := { name := "fnExactSumRange", fn := fun _ => fun
  | [d] => { results := [.lit (.bool false)], args := [d] }
  | _ => none }
def FnExactSumRangeWrongFalsely : Prop := fnExactSumRangeRow.holds Try.pinned (OpenSpec.ofChange fnExactSumRangeWrong)

/-- 'laws.FnExactReachedFrom': WHATEVER THE INPUT: true; the input reads as it did. -/
def fnExactReachedFromSpec : ChangeSpec := { name := "fnExactReachedFrom", fn := fun _ => fun
  | [d1, d2] => { results := [.lit (.bool true)], args := [d1, d2] }
  | _ => none }
def fnExactReachedFromRow : OpenClaim := { program := "ytllkojakeoennab", sum := "65a07b572f3c567ceb20b0422ccb61d3bd6d13b6d231c66fde73a4e0f76b01ee", func := "loop.example/g01142/laws.FnExactReachedFrom", spec := "fnExactReachedFrom", recurses := true, apart := false }
def FnExactReachedFromSaid : Prop := fnExactReachedFromRow.holds Try.pinned (OpenSpec.ofChange fnExactReachedFromSpec)

/-- ITS FALSE NEIGHBOUR: 'it returns false'. Refute it at one input. -/
def fnExactReachedFromWrong : ChangeSpec := { name := "fnExactReachedFrom", fn := fun _ => fun
  | [d1, d2] => { results := [.lit (.bool false)], args := [d1, d2] }
  | _ => none }
def FnExactReachedFromWrongFalsely : Prop := fnExactReachedFromRow.holds Try.pinned (OpenSpec.ofChange fnExactReachedFromWrong)

/-- 'laws.FnExactIsConnected': WHATEVER THE INPUT: true; the input reads as it did. -/
def fnExactIsConnectedSpec : ChangeSpec := { name := "fnExactIsConnected", fn := fun _ => fun
  | [d] => { results := [.lit (.bool true)], args := [d] }
  | _ => none }
def fnExactIsConnectedRow : OpenClaim := { program := "ytllkojakeoennab", sum := "65a07b572f3c567ceb20b0422ccb61d3bd6d13b6d231c66fde73a4e0f76b01ee", func := "loop.example/g01142/laws.FnExactIsConnected", spec := "fnExactIsConnected", recurses := true, apart := false }
def FnExactIsConnectedSaid : Prop := fnExactIsConnectedRow.holds Try.pinned (OpenSpec.ofChange fnExactIsConnectedSpec)

/-- ITS FALSE NEIGHBOUR: 'it returns false'. Refute it at one input. -/
def fnExactIsConnectedWrong : ChangeSpec := { name := "fnExactIsConnected", fn := fun _ => fun
  | [d] => { results := [.lit (.bool false)], args := [d] }
  | _ => none }
def FnExactIsConnectedWrongFalsely : Prop := fnExactIsConnectedRow.holds Try.pinned (OpenSpec.ofChange fnExactIsConnectedWrong)

/-- 'laws.FnExactIsCodeVector': WHATEVER THE INPUT: true; the input reads as it did. -/
def fnExactIsCodeVectorSpec : ChangeSpec := { name := "fnExactIsCodeVector", fn := fun _ => fun
  | [d1, d2, d3, d4] => { results := [.lit (.bool true)], args := [d1, d2, d3, d4] }
  | _ => none }
def fnExactIsCodeVectorRow : OpenClaim := { program := "ytllkojakeoennab", sum := "65a07b572f3c567ceb20b0422ccb61d3bd6d13b6d231c66fde73a4e0f76b01ee", func := "loop.example/g01142/laws.FnExactIsCodeVector", spec := "fnExactIsCodeVector", apart := false }
def FnExactIsCodeVectorSaid : Prop := fnExactIsCodeVectorRow.holds Try.pinned (OpenSpec.ofChange fnExactIsCodeVectorSpec)

/-- ITS FALSE NEIGHBOUR: 'it returns false'. Refute it at one input. -/
def fnExactIsCodeVectorWrong : ChangeSpec := { name := "fnExactIsCodeVector", fn := fun _ => fun
  | [d1, d2, d3, d4] => { results := [.lit (.bool false)], args := [d1, d2, d3, d4] }
  | _ => none }
def FnExactIsCodeVectorWrongFalsely : Prop := fnExactIsCodeVectorRow.holds Try.pinned (OpenSpec.ofChange fnExactIsCodeVectorWrong)

/-- 'laws.FnExactCountAllowed': WHATEVER THE INPUT: true; the input reads as it did. -/
def fnExactCountAllowedSpec : ChangeSpec := { name := "fnExactCountAllowed", fn := fun _ => fun
  | [d1, d2, d3] => { results := [.lit (.bool true)], args := [d1, d2, d3] }
  | _ => none }
def fnExactCountAllowedRow : OpenClaim := { program := "ytllkojakeoennab", sum := "65a07b572f3c567ceb20b0422ccb61d3bd6d13b6d231c66fde73a4e0f76b01ee", func := "loop.example/g01142/laws.FnExactCountAllowed", spec := "fnExactCountAllowed", recurses := true, apart := false }
def FnExactCountAllowedSaid : Prop := fnExactCountAllowedRow.holds Try.pinned (OpenSpec.ofChange fnExactCountAllowedSpec)

/-- ITS FALSE NEIGHBOUR: 'it returns false'. Refute it at one input. -/
def fnExactCountAllowedWrong : ChangeSpec := { name := "fnExactCountAllowed", fn := fun _ => fun
  | [d1, d2, d3] => { results := [.lit (.bool false)], args := [d1, d2, d3] }
  | _ => none }
def FnExactCountAllowedWrongFalsely : Prop := fnExactCountAllowedRow.holds Try.pinned (OpenSpec.ofChange fnExactCountAllowedWrong)

/-- 'laws.FnExactMergeGraph': WHATEVER THE INPUT: true; the input reads as it did. -/
def fnExactMergeGraphSpec : ChangeSpec := { name := "fnExactMergeGraph", fn := fun _ => fun
  | [d] => { results := [.lit (.bool true)], args := [d] }
  | _ => none }
def fnExactMergeGraphRow : OpenClaim := { program := "ytllkojakeoennab", sum := "65a07b572f3c567ceb20b0422ccb61d3bd6d13b6d231c66fde73a4e0f76b01ee", func := "loop.example/g01142/laws.FnExactMergeGraph", spec := "fnExactMergeGraph", apart := false }
def FnExactMergeGraphSaid : Prop := fnExactMergeGraphRow.holds Try.pinned (OpenSpec.ofChange fnExactMergeGraphSpec)

/-- ITS FALSE NEIGHBOUR: 'it returns false'. Refute it at one input. -/
def fnExactMergeGraphWrong : ChangeSpec := { name := "fnExactMergeGraph", fn := fun _ => fun
  | [d] => { results := [.lit (.bool false)], args := [d] }
  | _ => none }
def FnExactMergeGraphWrongFalsely : Prop := fnExactMergeGraphRow.holds Try.pinned (OpenSpec.ofChange fnExactMergeGraphWrong)

/- THE SECOND FORM. 'bulk': how many values and letters a reading holds, each counted each time it is reached (what is shared counts as often as it is met; a slice's spare places count too). A statement '..UptoSaid' is the law's where the arguments, and the package variables that the reading takes, are together of bulk at most 1048576: NARROWER than '..Said'. Prove '..Said' where nothing that the law and all that it calls make is longer than what came in: it says more and counts as full. Else prove '..UptoSaid'. A law counts once. -/
mutual
def uptoBulk {H : Type} : DataW H → Nat
  | .lit (.string bytes) => bytes.length + 1
  | .lit _ => 1
  | .nil => 1
  | .ptr d => uptoBulk d + 1
  | .slice elems spare => uptoBulkAll elems + uptoBulkAll spare + 1
  | .agg parts => uptoBulkAll parts + 1
  | .iface _ d => uptoBulk d + 1
  | .map entries => uptoBulkEntries entries + 1
  | .held _ => 1
def uptoBulkAll {H : Type} : List (DataW H) → Nat
  | [] => 0
  | d :: r => uptoBulk d + uptoBulkAll r
def uptoBulkEntries {H : Type} : List (Lit × DataW H) → Nat
  | [] => 0
  | x :: r => uptoBulkEntry x + uptoBulkEntries r
def uptoBulkEntry {H : Type} : Lit × DataW H → Nat
  | (.string bytes, d) => bytes.length + uptoBulk d + 1
  | (_, d) => uptoBulk d + 1
 end
def uptoSmall : (H : Type) → List (DataW H) → Bool := fun _ ds => decide (uptoBulkAll ds ≤ 1048576)
def OpenSpec.upto (s : _root_.Go.ChangeSpec) : _root_.Go.OpenSpec := { _root_.Go.OpenSpec.ofChange s with cond := some uptoSmall }

/-- 'laws.FnExactEscapeBytes', WHERE WHAT IT READS IS OF BULK AT MOST 1048576: true; the input reads as it did. -/
def fnExactEscapeBytesUptoRow : OpenClaim := { program := "ytllkojakeoennab", sum := "65a07b572f3c567ceb20b0422ccb61d3bd6d13b6d231c66fde73a4e0f76b01ee", func := "loop.example/g01142/laws.FnExactEscapeBytes", spec := "fnExactEscapeBytes", apart := false, narrowed := true }
def FnExactEscapeBytesUptoSaid : Prop := fnExactEscapeBytesUptoRow.holds Try.pinned (OpenSpec.upto fnExactEscapeBytesSpec)

/-- 'laws.FnExactUnescapeBytes', WHERE WHAT IT READS IS OF BULK AT MOST 1048576: true; the input reads as it did. -/
def fnExactUnescapeBytesUptoRow : OpenClaim := { program := "ytllkojakeoennab", sum := "65a07b572f3c567ceb20b0422ccb61d3bd6d13b6d231c66fde73a4e0f76b01ee", func := "loop.example/g01142/laws.FnExactUnescapeBytes", spec := "fnExactUnescapeBytes", unfollowed := true, recurses := true, apart := false, narrowed := true }
def FnExactUnescapeBytesUptoSaid : Prop := fnExactUnescapeBytesUptoRow.holds Try.pinned (OpenSpec.upto fnExactUnescapeBytesSpec)

/-- 'laws.FnExactCobsBytes', WHERE WHAT IT READS IS OF BULK AT MOST 1048576: true; the input reads as it did. -/
def fnExactCobsBytesUptoRow : OpenClaim := { program := "ytllkojakeoennab", sum := "65a07b572f3c567ceb20b0422ccb61d3bd6d13b6d231c66fde73a4e0f76b01ee", func := "loop.example/g01142/laws.FnExactCobsBytes", spec := "fnExactCobsBytes", apart := false, narrowed := true }
def FnExactCobsBytesUptoSaid : Prop := fnExactCobsBytesUptoRow.holds Try.pinned (OpenSpec.upto fnExactCobsBytesSpec)

/-- 'laws.FnExactUncobsBytes', WHERE WHAT IT READS IS OF BULK AT MOST 1048576: true; the input reads as it did. -/
def fnExactUncobsBytesUptoRow : OpenClaim := { program := "ytllkojakeoennab", sum := "65a07b572f3c567ceb20b0422ccb61d3bd6d13b6d231c66fde73a4e0f76b01ee", func := "loop.example/g01142/laws.FnExactUncobsBytes", spec := "fnExactUncobsBytes", apart := false, narrowed := true }
def FnExactUncobsBytesUptoSaid : Prop := fnExactUncobsBytesUptoRow.holds Try.pinned (OpenSpec.upto fnExactUncobsBytesSpec)

/-- 'laws.FnEscaped', WHERE WHAT IT READS IS OF BULK AT MOST 1048576: true; the input reads as it did. -/
def fnEscapedUptoRow : OpenClaim := { program := "ytllkojakeoennab", sum := "65a07b572f3c567ceb20b0422ccb61d3bd6d13b6d231c66fde73a4e0f76b01ee", func := "loop.example/g01142/laws.FnEscaped", spec := "fnEscaped", unfollowed := true, recurses := true, apart := false, narrowed := true }
def FnEscapedUptoSaid : Prop := fnEscapedUptoRow.holds Try.pinned (OpenSpec.upto fnEscapedSpec)

/-- 'laws.FnExactMakeBlockCode', WHERE WHAT IT READS IS OF BULK AT MOST 1048576: true; the input reads as it did. -/
def fnExactMakeBlockCodeUptoRow : OpenClaim := { program := "ytllkojakeoennab", sum := "65a07b572f3c567ceb20b0422ccb61d3bd6d13b6d231c66fde73a4e0f76b01ee", func := "loop.example/g01142/laws.FnExactMakeBlockCode", spec := "fnExactMakeBlockCode", inPlace := ["internal/abi.NoEscape", "internal/bytealg.MakeNoZero", "internal/bytealg.CountString", "internal/bytealg.IndexByteString", "internal/bytealg.IndexString"], named := ["internal/bytealg.MaxLen"], apart := false, narrowed := true }
def FnExactMakeBlockCodeUptoSaid : Prop := fnExactMakeBlockCodeUptoRow.holds Try.pinned (OpenSpec.upto fnExactMakeBlockCodeSpec)

/-- 'laws.FnExactSumRange', WHERE WHAT IT READS IS OF BULK AT MOST 1048576: true; the input reads as it did. -/
def fnExactSumRangeUptoRow : OpenClaim := { program := "ytllkojakeoennab", sum := "65a07b572f3c567ceb20b0422ccb61d3bd6d13b6d231c66fde73a4e0f76b01ee", func := "loop.example/g01142/laws.FnExactSumRange", spec := "fnExactSumRange", inPlace := ["internal/bytealg.CountString", "internal/bytealg.IndexByteString", "internal/bytealg.IndexString"], unfollowed := true, recurses := true, named := ["internal/bytealg.MaxLen"], apart := false, narrowed := true }
def FnExactSumRangeUptoSaid : Prop := fnExactSumRangeUptoRow.holds Try.pinned (OpenSpec.upto fnExactSumRangeSpec)

/-- 'laws.FnExactReachedFrom', WHERE WHAT IT READS IS OF BULK AT MOST 1048576: true; the input reads as it did. -/
def fnExactReachedFromUptoRow : OpenClaim := { program := "ytllkojakeoennab", sum := "65a07b572f3c567ceb20b0422ccb61d3bd6d13b6d231c66fde73a4e0f76b01ee", func := "loop.example/g01142/laws.FnExactReachedFrom", spec := "fnExactReachedFrom", recurses := true, apart := false, narrowed := true }
def FnExactReachedFromUptoSaid : Prop := fnExactReachedFromUptoRow.holds Try.pinned (OpenSpec.upto fnExactReachedFromSpec)

/-- 'laws.FnExactIsConnected', WHERE WHAT IT READS IS OF BULK AT MOST 1048576: true; the input reads as it did. -/
def fnExactIsConnectedUptoRow : OpenClaim := { program := "ytllkojakeoennab", sum := "65a07b572f3c567ceb20b0422ccb61d3bd6d13b6d231c66fde73a4e0f76b01ee", func := "loop.example/g01142/laws.FnExactIsConnected", spec := "fnExactIsConnected", recurses := true, apart := false, narrowed := true }
def FnExactIsConnectedUptoSaid : Prop := fnExactIsConnectedUptoRow.holds Try.pinned (OpenSpec.upto fnExactIsConnectedSpec)

/-- 'laws.FnExactIsCodeVector', WHERE WHAT IT READS IS OF BULK AT MOST 1048576: true; the input reads as it did. -/
def fnExactIsCodeVectorUptoRow : OpenClaim := { program := "ytllkojakeoennab", sum := "65a07b572f3c567ceb20b0422ccb61d3bd6d13b6d231c66fde73a4e0f76b01ee", func := "loop.example/g01142/laws.FnExactIsCodeVector", spec := "fnExactIsCodeVector", apart := false, narrowed := true }
def FnExactIsCodeVectorUptoSaid : Prop := fnExactIsCodeVectorUptoRow.holds Try.pinned (OpenSpec.upto fnExactIsCodeVectorSpec)

/-- 'laws.FnExactCountAllowed', WHERE WHAT IT READS IS OF BULK AT MOST 1048576: true; the input reads as it did. -/
def fnExactCountAllowedUptoRow : OpenClaim := { program := "ytllkojakeoennab", sum := "65a07b572f3c567ceb20b0422ccb61d3bd6d13b6d231c66fde73a4e0f76b01ee", func := "loop.example/g01142/laws.FnExactCountAllowed", spec := "fnExactCountAllowed", recurses := true, apart := false, narrowed := true }
def FnExactCountAllowedUptoSaid : Prop := fnExactCountAllowedUptoRow.holds Try.pinned (OpenSpec.upto fnExactCountAllowedSpec)

/-- 'laws.FnExactMergeGraph', WHERE WHAT IT READS IS OF BULK AT MOST 1048576: true; the input reads as it did. -/
def fnExactMergeGraphUptoRow : OpenClaim := { program := "ytllkojakeoennab", sum := "65a07b572f3c567ceb20b0422ccb61d3bd6d13b6d231c66fde73a4e0f76b01ee", func := "loop.example/g01142/laws.FnExactMergeGraph", spec := "fnExactMergeGraph", apart := false, narrowed := true }
def FnExactMergeGraphUptoSaid : Prop := fnExactMergeGraphUptoRow.holds Try.pinned (OpenSpec.upto fnExactMergeGraphSpec)

end Rows
end Go.Proofs.Ytllkojakeoennab
