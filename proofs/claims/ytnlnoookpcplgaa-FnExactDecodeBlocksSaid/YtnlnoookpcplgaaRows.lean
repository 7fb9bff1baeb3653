/-
  No cell of these rows narrows 'for every input' (looked for: loops, veiled, ifaces, maps, wideKeys, modest, calm, conditions, laid).
  DERIVED. THE GIVEN ROWS OF THIS SEAT. 12 by the template 'for every input the law returns true; each argument reads behind the call as it read before'; 0 by the template 'total and deterministic' (their statements: YtnlnoookpcplgaaTotals.lean).
  GIVEN WITH THE SEED: the statements are not yours to turn. If you find one false, say at which input.
  Laid BY PROGRAM, IN A SANDBOX (cutbox-rows.mjs): the forced cells as the released guide's own fill.sh prints them over the translation d26f16d8a5167dc5… (all of the seat's roots in one cut). By AI agents, Wed Nov 11 2026. No macro, syntax, notation, axiom, sorry.
-/
import Derived.Test.YtnlnoookpcplgaaChecked
import GoSem.Claim
import GoSem.ClaimJoined
import GoSem.ClaimMapViews
import Derived.JoinedTies
import Derived.KernelRfl
namespace Go.Proofs.Ytnlnoookpcplgaa
/- THE CELL 'sum', in the pinned program and in every row, IS THE sha256 OF THE DUMP (.gsa) THAT YtnlnoookpcplgaaProg.lean LOADS. Nothing in Lean hashes anything: it is a label: what it is worth is what the hold of that sum in a sandbox is worth. -/
noncomputable def Try.pinned : Pinned := { name := "ytnlnoookpcplgaa", sum := "d26f16d8a5167dc53641d73a95a0cedad1d4ab8ead367db588179ed29b46d99f", checked := Try.checked }
namespace Rows
def none {H : Type} : Left H := { results := [], args := [] }

/-- 'laws.FnExactValidBlockCode': WHATEVER THE INPUT: true; the input reads as it did. -/
def fnExactValidBlockCodeSpec : ChangeSpec := { name := "fnExactValidBlockCode", fn := fun _ => fun
  | [d] => { results := [.lit (.bool true)], args := [d] }
  | _ => none }
def fnExactValidBlockCodeRow : OpenClaim := { program := "ytnlnoookpcplgaa", sum := "d26f16d8a5167dc53641d73a95a0cedad1d4ab8ead367db588179ed29b46d99f", func := "loop.example/g01142/laws.FnExactValidBlockCode", spec := "fnExactValidBlockCode", inPlace := ["internal/bytealg.CountString", "internal/bytealg.IndexByteString", "internal/bytealg.IndexString"], named := ["internal/bytealg.MaxLen"], apart := false }
def FnExactValidBlockCodeSaid : Prop := fnExactValidBlockCodeRow.holds Try.pinned (OpenSpec.ofChange fnExactValidBlockCodeSpec)

/-- ITS FALSE NEIGHBOUR: 'it returns false'. Refute it at one input. -/
def fnExactValidBlockCodeWrong : ChangeSpec := { name := "fnExactValidBlockCode", fn := fun _ => fun
  | [d] => { results := [.lit (.bool false)], args := [d] }
  | _ => none }
def FnExactValidBlockCodeWrongFalsely : Prop := fnExactValidBlockCodeRow.holds Try.pinned (OpenSpec.ofChange fnExactValidBlockCodeWrong)

/-- 'laws.FnExactDisparityOf': WHATEVER THE INPUT: true; the input reads as it did. -/
def fnExactDisparityOfSpec : ChangeSpec := { name := "fnExactDisparityOf", fn := fun _ => fun
  | [d] => { results := [.lit (.bool true)], args := [d] }
  | _ => none }
def fnExactDisparityOfRow : OpenClaim := { program := "ytnlnoookpcplgaa", sum := "d26f16d8a5167dc53641d73a95a0cedad1d4ab8ead367db588179ed29b46d99f", func := "loop.example/g01142/laws.FnExactDisparityOf", spec := "fnExactDisparityOf", inPlace := ["internal/bytealg.CountString", "internal/bytealg.IndexByteString", "internal/bytealg.IndexString"], named := ["internal/bytealg.MaxLen"], apart := false }
def FnExactDisparityOfSaid : Prop := fnExactDisparityOfRow.holds Try.pinned (OpenSpec.ofChange fnExactDisparityOfSpec)

/-- ITS FALSE NEIGHBOUR: 'it returns false'. Refute it at one input. -/
def fnExactDisparityOfWrong : ChangeSpec := { name := "fnExactDisparityOf", fn := fun _ => fun
  | [d] => { results := [.lit (.bool false)], args := [d] }
  | _ => none }
def FnExactDisparityOfWrongFalsely : Prop := fnExactDisparityOfRow.holds Try.pinned (OpenSpec.ofChange fnExactDisparityOfWrong)

/-- 'laws.FnExactCountBalanced': WHATEVER THE INPUT: true; the input reads as it did. -/
def fnExactCountBalancedSpec : ChangeSpec := { name := "fnExactCountBalanced", fn := fun _ => fun
  | [d1, d2] => { results := [.lit (.bool true)], args := [d1, d2] }
  | _ => none }
def fnExactCountBalancedRow : OpenClaim := { program := "ytnlnoookpcplgaa", sum := "d26f16d8a5167dc53641d73a95a0cedad1d4ab8ead367db588179ed29b46d99f", func := "loop.example/g01142/laws.FnExactCountBalanced", spec := "fnExactCountBalanced", apart := false }
def FnExactCountBalancedSaid : Prop := fnExactCountBalancedRow.holds Try.pinned (OpenSpec.ofChange fnExactCountBalancedSpec)

/-- ITS FALSE NEIGHBOUR: 'it returns false'. Refute it at one input. -/
def fnExactCountBalancedWrong : ChangeSpec := { name := "fnExactCountBalanced", fn := fun _ => fun
  | [d1, d2] => { results := [.lit (.bool false)], args := [d1, d2] }
  | _ => none }
def FnExactCountBalancedWrongFalsely : Prop := fnExactCountBalancedRow.holds Try.pinned (OpenSpec.ofChange fnExactCountBalancedWrong)

/-- 'laws.FnExactMakeBlockCode': WHATEVER THE INPUT: true; the input reads as it did. -/
def fnExactMakeBlockCodeSpec : ChangeSpec := { name := "fnExactMakeBlockCode", fn := fun _ => fun
  | [d1, d2] => { results := [.lit (.bool true)], args := [d1, d2] }
  | _ => none }
def fnExactMakeBlockCodeRow : OpenClaim := { program := "ytnlnoookpcplgaa", sum := "d26f16d8a5167dc53641d73a95a0cedad1d4ab8ead367db588179ed29b46d99f", func := "loop.example/g01142/laws.FnExactMakeBlockCode", spec := "fnExactMakeBlockCode", inPlace := ["internal/abi.NoEscape", "internal/bytealg.MakeNoZero", "internal/bytealg.CountString", "internal/bytealg.IndexByteString", "internal/bytealg.IndexString"], named := ["internal/bytealg.MaxLen"], apart := false }
def FnExactMakeBlockCodeSaid : Prop := fnExactMakeBlockCodeRow.holds Try.pinned (OpenSpec.ofChange fnExactMakeBlockCodeSpec)

/-- ITS FALSE NEIGHBOUR: 'it returns false'. Refute it at one input. -/
def fnExactMakeBlockCodeWrong : ChangeSpec := { name := "fnExactMakeBlockCode", fn := fun _ => fun
  | [d1, d2] => { results := [.lit (.bool false)], args := [d1, d2] }
  | _ => none }
def FnExactMakeBlockCodeWrongFalsely : Prop := fnExactMakeBlockCodeRow.holds Try.pinned (OpenSpec.ofChange fnExactMakeBlockCodeWrong)

/-- 'laws.FnExactEncodeBlocks': WHATEVER THE INPUT: true; the input reads as it did. -/
def fnExactEncodeBlocksSpec : ChangeSpec := { name := "fnExactEncodeBlocks", fn := fun _ => fun
  | [d1, d2, d3] => { results := [.lit (.bool true)], args := [d1, d2, d3] }
  | _ => none }
def fnExactEncodeBlocksRow : OpenClaim := { program := "ytnlnoookpcplgaa", sum := "d26f16d8a5167dc53641d73a95a0cedad1d4ab8ead367db588179ed29b46d99f", func := "loop.example/g01142/laws.FnExactEncodeBlocks", spec := "fnExactEncodeBlocks", inPlace := ["internal/bytealg.CountString", "internal/bytealg.IndexByteString", "internal/bytealg.IndexString", "internal/abi.NoEscape"], named := ["internal/bytealg.MaxLen"], apart := false }
def FnExactEncodeBlocksSaid : Prop := fnExactEncodeBlocksRow.holds Try.pinned (OpenSpec.ofChange fnExactEncodeBlocksSpec)

/-- ITS FALSE NEIGHBOUR: 'it returns false'. Refute it at one input. -/
def fnExactEncodeBlocksWrong : ChangeSpec := { name := "fnExactEncodeBlocks", fn := fun _ => fun
  | [d1, d2, d3] => { results := [.lit (.bool false)], args := [d1, d2, d3] }
  | _ => none }
def FnExactEncodeBlocksWrongFalsely : Prop := fnExactEncodeBlocksRow.holds Try.pinned (OpenSpec.ofChange fnExactEncodeBlocksWrong)

/-- 'laws.FnExactDecodeBlocks': WHATEVER THE INPUT: true; the input reads as it did. -/
def fnExactDecodeBlocksSpec : ChangeSpec := { name := "fnExactDecodeBlocks", fn := fun _ => fun
  | [d1, d2, d3] => { results := [.lit (.bool true)], args := [d1, d2, d3] }
  | _ => none }
def fnExactDecodeBlocksRow : OpenClaim := { program := "ytnlnoookpcplgaa", sum := "d26f16d8a5167dc53641d73a95a0cedad1d4ab8ead367db588179ed29b46d99f", func := "loop.example/g01142/laws.FnExactDecodeBlocks", spec := "fnExactDecodeBlocks", inPlace := ["internal/bytealg.CountString", "internal/bytealg.IndexByteString", "internal/bytealg.IndexString"], named := ["internal/bytealg.MaxLen"], apart := false }
def FnExactDecodeBlocksSaid : Prop := fnExactDecodeBlocksRow.holds Try.pinned (OpenSpec.ofChange fnExactDecodeBlocksSpec)

/-- ITS FALSE NEIGHBOUR: 'it returns false'. Refute it at one input. -/
def fnExactDecodeBlocksWrong : ChangeSpec := { name := "fnExactDecodeBlocks", fn := fun _ => fun
  | [d1, d2, d3] => { results := [.lit (.bool false)], args := [d1, d2, d3] }
  | _ => none }
def FnExactDecodeBlocksWrongFalsely : Prop := fnExactDecodeBlocksRow.holds Try.pinned (OpenSpec.ofChange fnExactDecodeBlocksWrong)

/-- 'laws.FnExactSumRange': WHATEVER THE INPUT: true; the input reads as it did. -/
def fnExactSumRangeSpec : ChangeSpec := { name := "fnExactSumRange", fn := fun _ => fun
  | [d] => { results := [.lit (.bool true)], args := [d] }
  | _ => none }
def fnExactSumRangeRow : OpenClaim := { program := "ytnlnoookpcplgaa", sum := "d26f16d8a5167dc53641d73a95a0cedad1d4ab8ead367db588179ed29b46d99f", func := "loop.example/g01142/laws.FnExactSumRange", spec := "fnExactSumRange", inPlace := ["internal/bytealg.CountString", "internal/bytealg.IndexByteString", "internal/bytealg.IndexString"], unfollowed := true, recurses := true, named := ["internal/bytealg.MaxLen"], apart := false }
def FnExactSumRangeSaid : Prop := fnExactSumRangeRow.holds Try.pinned (OpenSpec.ofChange fnExactSumRangeSpec)

/-- ITS FALSE NEIGHBOUR: 'it returns false'. Refute it at one input. -/
def fnExactSumRangeWrong : ChangeSpec := { name := "fnExactSumRange", fn := fun _ => fun
  | [d] => { results := [.lit (.bool false)], args := [d] }
  | _ => none }
def FnExactSumRangeWrongFalsely : Prop := fnExactSumRangeRow.holds Try.pinned (OpenSpec.ofChange fnExactSumRangeWrong)

/-- 'laws.FnExactRunBound': WHATEVER THE INPUT: true; the input reads as it did. -/
def fnExactRunBoundSpec : ChangeSpec := { name := "fnExactRunBound", fn := fun _ => fun
  | [d] => { results := [.lit (.bool true)], args := [d] }
  | _ => none }
def fnExactRunBoundRow : OpenClaim := { program := "ytnlnoookpcplgaa", sum := "d26f16d8a5167dc53641d73a95a0cedad1d4ab8ead367db588179ed29b46d99f", func := "loop.example/g01142/laws.FnExactRunBound", spec := "fnExactRunBound", inPlace := ["internal/bytealg.CountString", "internal/bytealg.IndexByteString", "internal/bytealg.IndexString"], unfollowed := true, recurses := true, named := ["internal/bytealg.MaxLen"], apart := false }
def FnExactRunBoundSaid : Prop := fnExactRunBoundRow.holds Try.pinned (OpenSpec.ofChange fnExactRunBoundSpec)

/-- ITS FALSE NEIGHBOUR: 'it returns false'. Refute it at one input. -/
def fnExactRunBoundWrong : ChangeSpec := { name := "fnExactRunBound", fn := fun _ => fun
  | [d] => { results := [.lit (.bool false)], args := [d] }
  | _ => none }
def FnExactRunBoundWrongFalsely : Prop := fnExactRunBoundRow.holds Try.pinned (OpenSpec.ofChange fnExactRunBoundWrong)

/-- 'laws.FnExactIsComma': WHATEVER THE INPUT: true; the input reads as it did. -/
def fnExactIsCommaSpec : ChangeSpec := { name := "fnExactIsComma", fn := fun _ => fun
  | [d1, d2] => { results := [.lit (.bool true)], args := [d1, d2] }
  | _ => none }
def fnExactIsCommaRow : OpenClaim := { program := "ytnlnoookpcplgaa", sum := "d26f16d8a5167dc53641d73a95a0cedad1d4ab8ead367db588179ed29b46d99f", func := "loop.example/g01142/laws.FnExactIsComma", spec := "fnExactIsComma", inPlace := ["internal/bytealg.CountString", "internal/bytealg.IndexByteString", "internal/bytealg.IndexString"], unfollowed := true, recurses := true, named := ["internal/bytealg.MaxLen"], apart := false }
def FnExactIsCommaSaid : Prop := fnExactIsCommaRow.holds Try.pinned (OpenSpec.ofChange fnExactIsCommaSpec)

/-- ITS FALSE NEIGHBOUR: 'it returns false'. Refute it at one input. -/
def fnExactIsCommaWrong : ChangeSpec := { name := "fnExactIsComma", fn := fun _ => fun
  | [d1, d2] => { results := [.lit (.bool false)], args := [d1, d2] }
  | _ => none }
def FnExactIsCommaWrongFalsely : Prop := fnExactIsCommaRow.holds Try.pinned (OpenSpec.ofChange fnExactIsCommaWrong)

/-- 'laws.FnExactCommasOf': WHATEVER THE INPUT: true; the input reads as it did. -/
def fnExactCommasOfSpec : ChangeSpec := { name := "fnExactCommasOf", fn := fun _ => fun
  | [d1, d2] => { results := [.lit (.bool true)], args := [d1, d2] }
  | _ => none }
def fnExactCommasOfRow : OpenClaim := { program := "ytnlnoookpcplgaa", sum := "d26f16d8a5167dc53641d73a95a0cedad1d4ab8ead367db588179ed29b46d99f", func := "loop.example/g01142/laws.FnExactCommasOf", spec := "fnExactCommasOf", inPlace := ["internal/bytealg.CountString", "internal/bytealg.IndexByteString", "internal/bytealg.IndexString"], unfollowed := true, recurses := true, named := ["internal/bytealg.MaxLen"], apart := false }
def FnExactCommasOfSaid : Prop := fnExactCommasOfRow.holds Try.pinned (OpenSpec.ofChange fnExactCommasOfSpec)

/-- ITS FALSE NEIGHBOUR: 'it returns false'. Refute it at one input. -/
def fnExactCommasOfWrong : ChangeSpec := { name := "fnExactCommasOf", fn := fun _ => fun
  | [d1, d2] => { results := [.lit (.bool false)], args := [d1, d2] }
  | _ => none }
def FnExactCommasOfWrongFalsely : Prop := fnExactCommasOfRow.holds Try.pinned (OpenSpec.ofChange fnExactCommasOfWrong)

/-- 'laws.FnExactFlipEffect': WHATEVER THE INPUT: true; the input reads as it did. -/
def fnExactFlipEffectSpec : ChangeSpec := { name := "fnExactFlipEffect", fn := fun _ => fun
  | [d1, d2, d3, d4] => { results := [.lit (.bool true)], args := [d1, d2, d3, d4] }
  | _ => none }
def fnExactFlipEffectRow : OpenClaim := { program := "ytnlnoookpcplgaa", sum := "d26f16d8a5167dc53641d73a95a0cedad1d4ab8ead367db588179ed29b46d99f", func := "loop.example/g01142/laws.FnExactFlipEffect", spec := "fnExactFlipEffect", inPlace := ["internal/bytealg.CountString", "internal/bytealg.IndexByteString", "internal/bytealg.IndexString", "internal/abi.NoEscape"], named := ["internal/bytealg.MaxLen"], apart := false }
def FnExactFlipEffectSaid : Prop := fnExactFlipEffectRow.holds Try.pinned (OpenSpec.ofChange fnExactFlipEffectSpec)

/-- ITS FALSE NEIGHBOUR: 'it returns false'. Refute it at one input. -/
def fnExactFlipEffectWrong : ChangeSpec := { name := "fnExactFlipEffect", fn := fun _ => fun
  | [d1, d2, d3, d4] => { results := [.lit (.bool false)], args := [d1, d2, d3, d4] }
  | _ => none }
def FnExactFlipEffectWrongFalsely : Prop := fnExactFlipEffectRow.holds Try.pinned (OpenSpec.ofChange fnExactFlipEffectWrong)

/-- 'laws.FnBlocks': WHATEVER THE INPUT: true; the input reads as it did. -/
def fnBlocksSpec : ChangeSpec := { name := "fnBlocks", fn := fun _ => fun
  | [d1, d2] => { results := [.lit (.bool true)], args := [d1, d2] }
  | _ => none }
def fnBlocksRow : OpenClaim := { program := "ytnlnoookpcplgaa", sum := "d26f16d8a5167dc53641d73a95a0cedad1d4ab8ead367db588179ed29b46d99f", func := "loop.example/g01142/laws.FnBlocks", spec := "fnBlocks", inPlace := ["internal/bytealg.CountString", "internal/bytealg.IndexByteString", "internal/bytealg.IndexString", "internal/abi.NoEscape"], unfollowed := true, recurses := true, named := ["internal/bytealg.MaxLen"], apart := false }
def FnBlocksSaid : Prop := fnBlocksRow.holds Try.pinned (OpenSpec.ofChange fnBlocksSpec)

/-- ITS FALSE NEIGHBOUR: 'it returns false'. Refute it at one input. -/
def fnBlocksWrong : ChangeSpec := { name := "fnBlocks", fn := fun _ => fun
  | [d1, d2] => { results := [.lit (.bool false)], args := [d1, d2] }
  | _ => none }
def FnBlocksWrongFalsely : Prop := fnBlocksRow.holds Try.pinned (OpenSpec.ofChange fnBlocksWrong)

/- THE SECOND FORM. 'bulk': how many values and letters a reading holds, each counted each time it is reached (what is shared counts as often as it is met; a slice's spare places count too). A statement '..UptoSaid' is the law's where the arguments, and the package variables that the reading takes, are together of bulk at most 1048576: NARROWER than '..Said'. Prove '..Said' where nothing that the law and all that it calls make is longer than what came in: it says more and counts as full. Else prove '..UptoSaid'. A law counts once. -/
mutual
def uptoBulk {H : Type} : DataW H → Nat
  | .lit (.string bytes) => bytes.length + 1
  | .lit _ => 1
  | .nil => 1
  | .ptr d => uptoBulk d + 1
  | .slice elems spare => uptoBulkAll elems + uptoBulkAll spare + 1
  | .agg parts => uptoBulkAll parts + 1
  | .iface _ d => uptoBulk d + 1
  | .map entries => uptoBulkEntries entries + 1
  | .held _ => 1
def uptoBulkAll {H : Type} : List (DataW H) → Nat
  | [] => 0
  | d :: r => uptoBulk d + uptoBulkAll r
def uptoBulkEntries {H : Type} : List (Lit × DataW H) → Nat
  | [] => 0
  | x :: r => uptoBulkEntry x + uptoBulkEntries r
def uptoBulkEntry {H : Type} : Lit × DataW H → Nat
  | (.string bytes, d) => bytes.length + uptoBulk d + 1
  | (_, d) => uptoBulk d + 1
 end
def uptoSmall : (H : Type) → List (DataW H) → Bool := fun _ ds => decide (uptoBulkAll ds ≤ 1048576)
def OpenSpec.upto (s : _root_.Go.ChangeSpec) : _root_.Go.OpenSpec := { _root_.Go.OpenSpec.ofChange s with cond := some uptoSmall }

/-- 'laws.FnExactValidBlockCode', WHERE WHAT IT READS IS OF BULK AT MOST 1048576: true; the input reads as it did. -/
def fnExactValidBlockCodeUptoRow : OpenClaim := { program := "ytnlnoookpcplgaa", sum := "d26f16d8a5167dc53641d73a95a0cedad1d4ab8ead367db588179ed29b46d99f", func := "loop.example/g01142/laws.FnExactValidBlockCode", spec := "fnExactValidBlockCode", inPlace := ["internal/bytealg.CountString", "internal/bytealg.IndexByteString", "internal/bytealg.IndexString"], named := ["internal/bytealg.MaxLen"], apart := false, narrowed := true }
def FnExactValidBlockCodeUptoSaid : Prop := fnExactValidBlockCodeUptoRow.holds Try.pinned (OpenSpec.upto fnExactValidBlockCodeSpec)

/-- 'laws.FnExactDisparityOf', WHERE WHAT IT READS IS OF BULK AT MOST 1048576: true; the input reads as it did. -/
def fnExactDisparityOfUptoRow : OpenClaim := { program := "ytnlnoookpcplgaa", sum := "d26f16d8a5167dc53641d73a95a0cedad1d4ab8ead367db588179ed29b46d99f", func := "loop.example/g01142/laws.FnExactDisparityOf", spec := "fnExactDisparityOf", inPlace := ["internal/bytealg.CountString", "internal/bytealg.IndexByteString", "internal/bytealg.IndexString"], named := ["internal/bytealg.MaxLen"], apart := false, narrowed := true }
def FnExactDisparityOfUptoSaid : Prop := fnExactDisparityOfUptoRow.holds Try.pinned (OpenSpec.upto fnExactDisparityOfSpec)

/-- 'laws.FnExactCountBalanced', WHERE WHAT IT READS IS OF BULK AT MOST 1048576: true; the input reads as it did. -/
def fnExactCountBalancedUptoRow : OpenClaim := { program := "ytnlnoookpcplgaa", sum := "d26f16d8a5167dc53641d73a95a0cedad1d4ab8ead367db588179ed29b46d99f", func := "loop.example/g01142/laws.FnExactCountBalanced", spec := "fnExactCountBalanced", apart := false, narrowed := true }
def FnExactCountBalancedUptoSaid : Prop := fnExactCountBalancedUptoRow.holds Try.pinned (OpenSpec.upto fnExactCountBalancedSpec)

/-- 'laws.FnExactMakeBlockCode', WHERE WHAT IT READS IS OF BULK AT MOST 1048576: true; the input reads as it did. -/
def fnExactMakeBlockCodeUptoRow : OpenClaim := { program := "ytnlnoookpcplgaa", sum := "d26f16d8a5167dc53641d73a95a0cedad1d4ab8ead367db588179ed29b46d99f", func := "loop.example/g01142/laws.FnExactMakeBlockCode", spec := "fnExactMakeBlockCode", inPlace := ["internal/abi.NoEscape", "internal/bytealg.MakeNoZero", "internal/bytealg.CountString", "internal/bytealg.IndexByteString", "internal/bytealg.IndexString"], named := ["internal/bytealg.MaxLen"], apart := false, narrowed := true }
def FnExactMakeBlockCodeUptoSaid : Prop := fnExactMakeBlockCodeUptoRow.holds Try.pinned (OpenSpec.upto fnExactMakeBlockCodeSpec)

/-- 'laws.FnExactEncodeBlocks', WHERE WHAT IT READS IS OF BULK AT MOST 1048576: true; the input reads as it did. -/
def fnExactEncodeBlocksUptoRow : OpenClaim := { program := "ytnlnoookpcplgaa", sum := "d26f16d8a5167dc53641d73a95a0cedad1d4ab8ead367db588179ed29b46d99f", func := "loop.example/g01142/laws.FnExactEncodeBlocks", spec := "fnExactEncodeBlocks", inPlace := ["internal/bytealg.CountString", "internal/bytealg.IndexByteString", "internal/bytealg.IndexString", "internal/abi.NoEscape"], named := ["internal/bytealg.MaxLen"], apart := false, narrowed := true }
def FnExactEncodeBlocksUptoSaid : Prop := fnExactEncodeBlocksUptoRow.holds Try.pinned (OpenSpec.upto fnExactEncodeBlocksSpec)

/-- 'laws.FnExactDecodeBlocks', WHERE WHAT IT READS IS OF BULK AT MOST 1048576: true; the input reads as it did. -/
def fnExactDecodeBlocksUptoRow : OpenClaim := { program := "ytnlnoookpcplgaa", sum := "d26f16d8a5167dc53641d73a95a0cedad1d4ab8ead367db588179ed29b46d99f", func := "loop.example/g01142/laws.FnExactDecodeBlocks", spec := "fnExactDecodeBlocks", inPlace := ["internal/bytealg.CountString", "internal/bytealg.IndexByteString", "internal/bytealg.IndexString"], named := ["internal/bytealg.MaxLen"], apart := false, narrowed := true }
def FnExactDecodeBlocksUptoSaid : Prop := fnExactDecodeBlocksUptoRow.holds Try.pinned (OpenSpec.upto fnExactDecodeBlocksSpec)

/-- 'laws.FnExactSumRange', WHERE WHAT IT READS IS OF BULK AT MOST 1048576: true; the input reads as it did. -/
def fnExactSumRangeUptoRow : OpenClaim := { program := "ytnlnoookpcplgaa", sum := "d26f16d8a5167dc53641d73a95a0cedad1d4ab8ead367db588179ed29b46d99f", func := "loop.example/g01142/laws.FnExactSumRange", spec := "fnExactSumRange", inPlace := ["internal/bytealg.CountString", "internal/bytealg.IndexByteString", "internal/bytealg.IndexString"], unfollowed := true, recurses := true, named := ["internal/bytealg.MaxLen"], apart := false, narrowed := true }
def FnExactSumRangeUptoSaid : Prop := fnExactSumRangeUptoRow.holds Try.pinned (OpenSpec.upto fnExactSumRangeSpec)

/-- 'laws.FnExactRunBound', WHERE WHAT IT READS IS OF BULK AT MOST 1048576: true; the input reads as it did. -/
def fnExactRunBoundUptoRow : OpenClaim := { program := "ytnlnoookpcplgaa", sum := "d26f16d8a5167dc53641d73a95a0cedad1d4ab8ead367db588179ed29b46d99f", func := "loop.example/g01142/laws.FnExactRunBound", spec := "fnExactRunBound", inPlace := ["internal/bytealg.CountString", "internal/bytealg.IndexByteString", "internal/bytealg.IndexString"], unfollowed := true, recurses := true, named := ["internal/bytealg.MaxLen"], apart := false, narrowed := true }
def FnExactRunBoundUptoSaid : Prop := fnExactRunBoundUptoRow.holds Try.pinned (OpenSpec.upto fnExactRunBoundSpec)

/-- 'laws.FnExactIsComma', WHERE WHAT IT READS IS OF BULK AT MOST 1048576: true; the input reads as it did. -/
def fnExactIsCommaUptoRow : OpenClaim := { program := "ytnlnoookpcplgaa", sum := "d26f16d8a5167dc53641d73a95a0cedad1d4ab8ead367db588179ed29b46d99f", func := "loop.example/g01142/laws.FnExactIsComma", spec := "fnExactIsComma", inPlace := ["internal/bytealg.CountString", "internal/bytealg.IndexByteString", "internal/bytealg.IndexString"], unfollowed := true, recurses := true, named := ["internal/bytealg.MaxLen"], apart := false, narrowed := true }
def FnExactIsCommaUptoSaid : Prop := fnExactIsCommaUptoRow.holds Try.pinned (OpenSpec.upto fnExactIsCommaSpec)

/-- 'laws.FnExactCommasOf', WHERE WHAT IT READS IS OF BULK AT MOST 1048576: true; the input reads as it did. -/
def fnExactCommasOfUptoRow : OpenClaim := { program := "ytnlnoookpcplgaa", sum := "d26f16d8a5167dc53641d73a95a0cedad1d4ab8ead367db588179ed29b46d99f", func := "loop.example/g01142/laws.FnExactCommasOf", spec := "fnExactCommasOf", inPlace := ["internal/bytealg.CountString", "internal/bytealg.IndexByteString", "internal/bytealg.IndexString"], unfollowed := true, recurses := true, named := ["internal/bytealg.MaxLen"], apart := false, narrowed := true }
def FnExactCommasOfUptoSaid : Prop := fnExactCommasOfUptoRow.holds Try.pinned (OpenSpec.upto fnExactCommasOfSpec)

/-- 'laws.FnExactFlipEffect', WHERE WHAT IT READS IS OF BULK AT MOST 1048576: true; the input reads as it did. -/
def fnExactFlipEffectUptoRow : OpenClaim := { program := "ytnlnoookpcplgaa", sum := "d26f16d8a5167dc53641d73a95a0cedad1d4ab8ead367db588179ed29b46d99f", func := "loop.example/g01142/laws.FnExactFlipEffect", spec := "fnExactFlipEffect", inPlace := ["internal/bytealg.CountString", "internal/bytealg.IndexByteString", "internal/bytealg.IndexString", "internal/abi.NoEscape"], named := ["internal/bytealg.MaxLen"], apart := false, narrowed := true }
def FnExactFlipEffectUptoSaid : Prop := fnExactFlipEffectUptoRow.holds Try.pinned (OpenSpec.upto fnExactFlipEffectSpec)

/-- 'laws.FnBlocks', WHERE WHAT IT READS IS OF BULK AT MOST 1048576: true; the input reads as it did. -/
def fnBlocksUptoRow : OpenClaim := { program := "ytnlnoookpcplgaa", sum := "d26f16d8a5167dc53641d73a95a0cedad1d4ab8ead367db588179ed29b46d99f", func := "loop.example/g01142/laws.FnBlocks", spec := "fnBlocks", inPlace := ["internal/bytealg.CountString", "internal/bytealg.IndexByteString", "internal/bytealg.IndexString", "internal/abi.NoEscape"], unfollowed := true, recurses := true, named := ["internal/bytealg.MaxLen"], apart := false, narrowed := true }
def FnBlocksUptoSaid : Prop := fnBlocksUptoRow.holds Try.pinned (OpenSpec.upto fnBlocksSpec)

end Rows
end Go.Proofs.Ytnlnoookpcplgaa
