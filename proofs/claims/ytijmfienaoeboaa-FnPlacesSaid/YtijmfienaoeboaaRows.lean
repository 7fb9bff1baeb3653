/-
  No cell of these rows narrows 'for every input' (looked for: loops, veiled, ifaces, maps, wideKeys, modest, calm, conditions, laid).
  DERIVED. THE GIVEN ROWS OF THIS SEAT. 12 by the template 'for every input the law returns true; each argument reads behind the call as it read before'; 0 by the template 'total and deterministic' (their statements: YtijmfienaoeboaaTotals.lean).
  GIVEN WITH THE SEED: the statements are not yours to turn. If you find one false, say at which input.
  Laid BY PROGRAM, IN A SANDBOX (cutbox-rows.mjs): the forced cells as the released guide's own fill.sh prints them over the translation dbb1baf22e3bf096… (all of the seat's roots in one cut). By AI agents, Wed Nov 11 2026. No macro, syntax, notation, axiom, sorry.
-/
import Derived.Test.YtijmfienaoeboaaChecked
import GoSem.Claim
import GoSem.ClaimJoined
import GoSem.ClaimMapViews
import Derived.JoinedTies
import Derived.KernelRfl
namespace Go.Proofs.Ytijmfienaoeboaa
/- THE CELL 'sum', in the pinned program and in every row, IS THE sha256 OF THE DUMP (.gsa) THAT YtijmfienaoeboaaProg.lean LOADS. Nothing in Lean hashes anything: it is a label: what it is worth is what the hold of that sum in a sandbox is worth. -/
noncomputable def Try.pinned : Pinned := { name := "ytijmfienaoeboaa", sum := "dbb1baf22e3bf096567620be43007620f22f4941de4cc129f9397cbeb707baa2", checked := Try.checked }
namespace Rows
def none {H : Type} : Left H := { results := [], args := [] }

/-- 'laws.FnExactIsCode': WHATEVER THE INPUT: true; the input reads as it did. -/
def fnExactIsCodeSpec : ChangeSpec := { name := "fnExactIsCode", fn := fun _ => fun
  | [d] => { results := [.lit (.bool true)], args := [d] }
  | _ => none }
def fnExactIsCodeRow : OpenClaim := { program := "ytijmfienaoeboaa", sum := "dbb1baf22e3bf096567620be43007620f22f4941de4cc129f9397cbeb707baa2", func := "loop.example/g01142/laws.FnExactIsCode", spec := "fnExactIsCode", apart := false }
def FnExactIsCodeSaid : Prop := fnExactIsCodeRow.holds Try.pinned (OpenSpec.ofChange fnExactIsCodeSpec)

/-- ITS FALSE NEIGHBOUR: 'it returns false'. Refute it at one input. -/
def fnExactIsCodeWrong : ChangeSpec := { name := "fnExactIsCode", fn := fun _ => fun
  | [d] => { results := [.lit (.bool false)], args := [d] }
  | _ => none }
def FnExactIsCodeWrongFalsely : Prop := fnExactIsCodeRow.holds Try.pinned (OpenSpec.ofChange fnExactIsCodeWrong)

/-- 'laws.FnExactIsPrefixCode': WHATEVER THE INPUT: true; the input reads as it did. -/
def fnExactIsPrefixCodeSpec : ChangeSpec := { name := "fnExactIsPrefixCode", fn := fun _ => fun
  | [d] => { results := [.lit (.bool true)], args := [d] }
  | _ => none }
def fnExactIsPrefixCodeRow : OpenClaim := { program := "ytijmfienaoeboaa", sum := "dbb1baf22e3bf096567620be43007620f22f4941de4cc129f9397cbeb707baa2", func := "loop.example/g01142/laws.FnExactIsPrefixCode", spec := "fnExactIsPrefixCode", unfollowed := true, recurses := true, apart := false }
def FnExactIsPrefixCodeSaid : Prop := fnExactIsPrefixCodeRow.holds Try.pinned (OpenSpec.ofChange fnExactIsPrefixCodeSpec)

/-- ITS FALSE NEIGHBOUR: 'it returns false'. Refute it at one input. -/
def fnExactIsPrefixCodeWrong : ChangeSpec := { name := "fnExactIsPrefixCode", fn := fun _ => fun
  | [d] => { results := [.lit (.bool false)], args := [d] }
  | _ => none }
def FnExactIsPrefixCodeWrongFalsely : Prop := fnExactIsPrefixCodeRow.holds Try.pinned (OpenSpec.ofChange fnExactIsPrefixCodeWrong)

/-- 'laws.FnExactKraftSum': WHATEVER THE INPUT: true; the input reads as it did. -/
def fnExactKraftSumSpec : ChangeSpec := { name := "fnExactKraftSum", fn := fun _ => fun
  | [d] => { results := [.lit (.bool true)], args := [d] }
  | _ => none }
def fnExactKraftSumRow : OpenClaim := { program := "ytijmfienaoeboaa", sum := "dbb1baf22e3bf096567620be43007620f22f4941de4cc129f9397cbeb707baa2", func := "loop.example/g01142/laws.FnExactKraftSum", spec := "fnExactKraftSum", apart := false }
def FnExactKraftSumSaid : Prop := fnExactKraftSumRow.holds Try.pinned (OpenSpec.ofChange fnExactKraftSumSpec)

/-- ITS FALSE NEIGHBOUR: 'it returns false'. Refute it at one input. -/
def fnExactKraftSumWrong : ChangeSpec := { name := "fnExactKraftSum", fn := fun _ => fun
  | [d] => { results := [.lit (.bool false)], args := [d] }
  | _ => none }
def FnExactKraftSumWrongFalsely : Prop := fnExactKraftSumRow.holds Try.pinned (OpenSpec.ofChange fnExactKraftSumWrong)

/-- 'laws.FnExactIsCompleteCode': WHATEVER THE INPUT: true; the input reads as it did. -/
def fnExactIsCompleteCodeSpec : ChangeSpec := { name := "fnExactIsCompleteCode", fn := fun _ => fun
  | [d] => { results := [.lit (.bool true)], args := [d] }
  | _ => none }
def fnExactIsCompleteCodeRow : OpenClaim := { program := "ytijmfienaoeboaa", sum := "dbb1baf22e3bf096567620be43007620f22f4941de4cc129f9397cbeb707baa2", func := "loop.example/g01142/laws.FnExactIsCompleteCode", spec := "fnExactIsCompleteCode", unfollowed := true, recurses := true, apart := false }
def FnExactIsCompleteCodeSaid : Prop := fnExactIsCompleteCodeRow.holds Try.pinned (OpenSpec.ofChange fnExactIsCompleteCodeSpec)

/-- ITS FALSE NEIGHBOUR: 'it returns false'. Refute it at one input. -/
def fnExactIsCompleteCodeWrong : ChangeSpec := { name := "fnExactIsCompleteCode", fn := fun _ => fun
  | [d] => { results := [.lit (.bool false)], args := [d] }
  | _ => none }
def FnExactIsCompleteCodeWrongFalsely : Prop := fnExactIsCompleteCodeRow.holds Try.pinned (OpenSpec.ofChange fnExactIsCompleteCodeWrong)

/-- 'laws.FnExactMeanLength': WHATEVER THE INPUT: true; the input reads as it did. -/
def fnExactMeanLengthSpec : ChangeSpec := { name := "fnExactMeanLength", fn := fun _ => fun
  | [d1, d2] => { results := [.lit (.bool true)], args := [d1, d2] }
  | _ => none }
def fnExactMeanLengthRow : OpenClaim := { program := "ytijmfienaoeboaa", sum := "dbb1baf22e3bf096567620be43007620f22f4941de4cc129f9397cbeb707baa2", func := "loop.example/g01142/laws.FnExactMeanLength", spec := "fnExactMeanLength", apart := false }
def FnExactMeanLengthSaid : Prop := fnExactMeanLengthRow.holds Try.pinned (OpenSpec.ofChange fnExactMeanLengthSpec)

/-- ITS FALSE NEIGHBOUR: 'it returns false'. Refute it at one input. -/
def fnExactMeanLengthWrong : ChangeSpec := { name := "fnExactMeanLength", fn := fun _ => fun
  | [d1, d2] => { results := [.lit (.bool false)], args := [d1, d2] }
  | _ => none }
def FnExactMeanLengthWrongFalsely : Prop := fnExactMeanLengthRow.holds Try.pinned (OpenSpec.ofChange fnExactMeanLengthWrong)

/-- 'laws.FnExactParsesOf': WHATEVER THE INPUT: true; the input reads as it did. -/
def fnExactParsesOfSpec : ChangeSpec := { name := "fnExactParsesOf", fn := fun _ => fun
  | [d1, d2] => { results := [.lit (.bool true)], args := [d1, d2] }
  | _ => none }
def fnExactParsesOfRow : OpenClaim := { program := "ytijmfienaoeboaa", sum := "dbb1baf22e3bf096567620be43007620f22f4941de4cc129f9397cbeb707baa2", func := "loop.example/g01142/laws.FnExactParsesOf", spec := "fnExactParsesOf", unfollowed := true, recurses := true, apart := false }
def FnExactParsesOfSaid : Prop := fnExactParsesOfRow.holds Try.pinned (OpenSpec.ofChange fnExactParsesOfSpec)

/-- ITS FALSE NEIGHBOUR: 'it returns false'. Refute it at one input. -/
def fnExactParsesOfWrong : ChangeSpec := { name := "fnExactParsesOf", fn := fun _ => fun
  | [d1, d2] => { results := [.lit (.bool false)], args := [d1, d2] }
  | _ => none }
def FnExactParsesOfWrongFalsely : Prop := fnExactParsesOfRow.holds Try.pinned (OpenSpec.ofChange fnExactParsesOfWrong)

/-- 'laws.FnExactFlipLoss': WHATEVER THE INPUT: true; the input reads as it did. -/
def fnExactFlipLossSpec : ChangeSpec := { name := "fnExactFlipLoss", fn := fun _ => fun
  | [d1, d2, d3] => { results := [.lit (.bool true)], args := [d1, d2, d3] }
  | _ => none }
def fnExactFlipLossRow : OpenClaim := { program := "ytijmfienaoeboaa", sum := "dbb1baf22e3bf096567620be43007620f22f4941de4cc129f9397cbeb707baa2", func := "loop.example/g01142/laws.FnExactFlipLoss", spec := "fnExactFlipLoss", inPlace := ["internal/abi.NoEscape"], unfollowed := true, recurses := true, apart := false }
def FnExactFlipLossSaid : Prop := fnExactFlipLossRow.holds Try.pinned (OpenSpec.ofChange fnExactFlipLossSpec)

/-- ITS FALSE NEIGHBOUR: 'it returns false'. Refute it at one input. -/
def fnExactFlipLossWrong : ChangeSpec := { name := "fnExactFlipLoss", fn := fun _ => fun
  | [d1, d2, d3] => { results := [.lit (.bool false)], args := [d1, d2, d3] }
  | _ => none }
def FnExactFlipLossWrongFalsely : Prop := fnExactFlipLossRow.holds Try.pinned (OpenSpec.ofChange fnExactFlipLossWrong)

/-- 'laws.FnExactCanonicalWords': WHATEVER THE INPUT: true; the input reads as it did. -/
def fnExactCanonicalWordsSpec : ChangeSpec := { name := "fnExactCanonicalWords", fn := fun _ => fun
  | [d] => { results := [.lit (.bool true)], args := [d] }
  | _ => none }
def fnExactCanonicalWordsRow : OpenClaim := { program := "ytijmfienaoeboaa", sum := "dbb1baf22e3bf096567620be43007620f22f4941de4cc129f9397cbeb707baa2", func := "loop.example/g01142/laws.FnExactCanonicalWords", spec := "fnExactCanonicalWords", unfollowed := true, recurses := true, apart := false }
def FnExactCanonicalWordsSaid : Prop := fnExactCanonicalWordsRow.holds Try.pinned (OpenSpec.ofChange fnExactCanonicalWordsSpec)

/-- ITS FALSE NEIGHBOUR: 'it returns false'. Refute it at one input. -/
def fnExactCanonicalWordsWrong : ChangeSpec := { name := "fnExactCanonicalWords", fn := fun _ => fun
  | [d] => { results := [.lit (.bool false)], args := [d] }
  | _ => none }
def FnExactCanonicalWordsWrongFalsely : Prop := fnExactCanonicalWordsRow.holds Try.pinned (OpenSpec.ofChange fnExactCanonicalWordsWrong)

/-- 'laws.FnExactBestLengths': WHATEVER THE INPUT: true; the input reads as it did. -/
def fnExactBestLengthsSpec : ChangeSpec := { name := "fnExactBestLengths", fn := fun _ => fun
  | [d] => { results := [.lit (.bool true)], args := [d] }
  | _ => none }
def fnExactBestLengthsRow : OpenClaim := { program := "ytijmfienaoeboaa", sum := "dbb1baf22e3bf096567620be43007620f22f4941de4cc129f9397cbeb707baa2", func := "loop.example/g01142/laws.FnExactBestLengths", spec := "fnExactBestLengths", unfollowed := true, recurses := true, apart := false }
def FnExactBestLengthsSaid : Prop := fnExactBestLengthsRow.holds Try.pinned (OpenSpec.ofChange fnExactBestLengthsSpec)

/-- ITS FALSE NEIGHBOUR: 'it returns false'. Refute it at one input. -/
def fnExactBestLengthsWrong : ChangeSpec := { name := "fnExactBestLengths", fn := fun _ => fun
  | [d] => { results := [.lit (.bool false)], args := [d] }
  | _ => none }
def FnExactBestLengthsWrongFalsely : Prop := fnExactBestLengthsRow.holds Try.pinned (OpenSpec.ofChange fnExactBestLengthsWrong)

/-- 'laws.FnPlaces': WHATEVER THE INPUT: true; the input reads as it did. -/
def fnPlacesSpec : ChangeSpec := { name := "fnPlaces", fn := fun _ => fun
  | [d1, d2] => { results := [.lit (.bool true)], args := [d1, d2] }
  | _ => none }
def fnPlacesRow : OpenClaim := { program := "ytijmfienaoeboaa", sum := "dbb1baf22e3bf096567620be43007620f22f4941de4cc129f9397cbeb707baa2", func := "loop.example/g01142/laws.FnPlaces", spec := "fnPlaces", inPlace := ["internal/bytealg.IndexByte", "internal/bytealg.Index", "internal/abi.NoEscape"], named := ["internal/bytealg.MaxLen"], apart := false }
def FnPlacesSaid : Prop := fnPlacesRow.holds Try.pinned (OpenSpec.ofChange fnPlacesSpec)

/-- ITS FALSE NEIGHBOUR: 'it returns false'. Refute it at one input. -/
def fnPlacesWrong : ChangeSpec := { name := "fnPlaces", fn := fun _ => fun
  | [d1, d2] => { results := [.lit (.bool false)], args := [d1, d2] }
  | _ => none }
def FnPlacesWrongFalsely : Prop := fnPlacesRow.holds Try.pinned (OpenSpec.ofChange fnPlacesWrong)

/-- 'laws.FnKnownGraphs': WHATEVER THE INPUT: true; the input reads as it did. -/
def fnKnownGraphsSpec : ChangeSpec := { name := "fnKnownGraphs", fn := fun _ => fun
  | [d1, d2] => { results := [.lit (.bool true)], args := [d1, d2] }
  | _ => none }
def fnKnownGraphsRow : OpenClaim := { program := "ytijmfienaoeboaa", sum := "dbb1baf22e3bf096567620be43007620f22f4941de4cc129f9397cbeb707baa2", func := "loop.example/g01142/laws.FnKnownGraphs", spec := "fnKnownGraphs", apart := false }
def FnKnownGraphsSaid : Prop := fnKnownGraphsRow.holds Try.pinned (OpenSpec.ofChange fnKnownGraphsSpec)

/-- ITS FALSE NEIGHBOUR: 'it returns false'. Refute it at one input. -/
def fnKnownGraphsWrong : ChangeSpec := { name := "fnKnownGraphs", fn := fun _ => fun
  | [d1, d2] => { results := [.lit (.bool false)], args := [d1, d2] }
  | _ => none }
def FnKnownGraphsWrongFalsely : Prop := fnKnownGraphsRow.holds Try.pinned (OpenSpec.ofChange fnKnownGraphsWrong)

/-- 'laws.FnExactMakeBlockCode': WHATEVER THE INPUT: true; the input reads as it did. -/
def fnExactMakeBlockCodeSpec : ChangeSpec := { name := "fnExactMakeBlockCode", fn := fun _ => fun
  | [d1, d2] => { results := [.lit (.bool true)], args := [d1, d2] }
  | _ => none }
def fnExactMakeBlockCodeRow : OpenClaim := { program := "ytijmfienaoeboaa", sum := "dbb1baf22e3bf096567620be43007620f22f4941de4cc129f9397cbeb707baa2", func := "loop.example/g01142/laws.FnExactMakeBlockCode", spec := "fnExactMakeBlockCode", inPlace := ["internal/abi.NoEscape", "internal/bytealg.MakeNoZero", "internal/bytealg.CountString", "internal/bytealg.IndexByteString", "internal/bytealg.IndexString"], named := ["internal/bytealg.MaxLen"], apart := false }
def FnExactMakeBlockCodeSaid : Prop := fnExactMakeBlockCodeRow.holds Try.pinned (OpenSpec.ofChange fnExactMakeBlockCodeSpec)

/-- ITS FALSE NEIGHBOUR: 'it returns false'. Refute it at one input. -/
def fnExactMakeBlockCodeWrong : ChangeSpec := { name := "fnExactMakeBlockCode", fn := fun _ => fun
  | [d1, d2] => { results := [.lit (.bool false)], args := [d1, d2] }
  | _ => none }
def FnExactMakeBlockCodeWrongFalsely : Prop := fnExactMakeBlockCodeRow.holds Try.pinned (OpenSpec.ofChange fnExactMakeBlockCodeWrong)

/- THE SECOND FORM. 'bulk': how many values and letters a reading holds, each counted each time it is reached (what is shared counts as often as it is met; a slice's spare places count too). A statement '..UptoSaid' is the law's where the arguments, and the package variables that the reading takes, are together of bulk at most 1048576: NARROWER than '..Said'. Prove '..Said' where nothing that the law and all that it calls make is longer than what came in: it says more and counts as full. Else prove '..UptoSaid'. A law counts once. -/
mutual
def uptoBulk {H : Type} : DataW H → Nat
  | .lit (.string bytes) => bytes.length + 1
  | .lit _ => 1
  | .nil => 1
  | .ptr d => uptoBulk d + 1
  | .slice elems spare => uptoBulkAll elems + uptoBulkAll spare + 1
  | .agg parts => uptoBulkAll parts + 1
  | .iface _ d => uptoBulk d + 1
  | .map entries => uptoBulkEntries entries + 1
  | .held _ => 1
def uptoBulkAll {H : Type} : List (DataW H) → Nat
  | [] => 0
  | d :: r => uptoBulk d + uptoBulkAll r
def uptoBulkEntries {H : Type} : List (Lit × DataW H) → Nat
  | [] => 0
  | x :: r => uptoBulkEntry x + uptoBulkEntries r
def uptoBulkEntry {H : Type} : Lit × DataW H → Nat
  | (.string bytes, d) => bytes.length + uptoBulk d + 1
  | (_, d) => uptoBulk d + 1
 end
def uptoSmall : (H : Type) → List (DataW H) → Bool := fun _ ds => decide (uptoBulkAll ds ≤ 1048576)
def OpenSpec.upto (s : _root_.Go.ChangeSpec) : _root_.Go.OpenSpec := { _root_.Go.OpenSpec.ofChange s with cond := some uptoSmall }

/-- 'laws.FnExactIsCode', WHERE WHAT IT READS IS OF BULK AT MOST 1048576: true; the input reads as it did. -/
def fnExactIsCodeUptoRow : OpenClaim := { program := "ytijmfienaoeboaa", sum := "dbb1baf22e3bf096567620be43007620f22f4941de4cc129f9397cbeb707baa2", func := "loop.example/g01142/laws.FnExactIsCode", spec := "fnExactIsCode", apart := false, narrowed := true }
def FnExactIsCodeUptoSaid : Prop := fnExactIsCodeUptoRow.holds Try.pinned (OpenSpec.upto fnExactIsCodeSpec)

/-- 'laws.FnExactIsPrefixCode', WHERE WHAT IT READS IS OF BULK AT MOST 1048576: true; the input reads as it did. -/
def fnExactIsPrefixCodeUptoRow : OpenClaim := { program := "ytijmfienaoeboaa", sum := "dbb1baf22e3bf096567620be43007620f22f4941de4cc129f9397cbeb707baa2", func := "loop.example/g01142/laws.FnExactIsPrefixCode", spec := "fnExactIsPrefixCode", unfollowed := true, recurses := true, apart := false, narrowed := true }
def FnExactIsPrefixCodeUptoSaid : Prop := fnExactIsPrefixCodeUptoRow.holds Try.pinned (OpenSpec.upto fnExactIsPrefixCodeSpec)

/-- 'laws.FnExactKraftSum', WHERE WHAT IT READS IS OF BULK AT MOST 1048576: true; the input reads as it did. -/
def fnExactKraftSumUptoRow : OpenClaim := { program := "ytijmfienaoeboaa", sum := "dbb1baf22e3bf096567620be43007620f22f4941de4cc129f9397cbeb707baa2", func := "loop.example/g01142/laws.FnExactKraftSum", spec := "fnExactKraftSum", apart := false, narrowed := true }
def FnExactKraftSumUptoSaid : Prop := fnExactKraftSumUptoRow.holds Try.pinned (OpenSpec.upto fnExactKraftSumSpec)

/-- 'laws.FnExactIsCompleteCode', WHERE WHAT IT READS IS OF BULK AT MOST 1048576: true; the input reads as it did. -/
def fnExactIsCompleteCodeUptoRow : OpenClaim := { program := "ytijmfienaoeboaa", sum := "dbb1baf22e3bf096567620be43007620f22f4941de4cc129f9397cbeb707baa2", func := "loop.example/g01142/laws.FnExactIsCompleteCode", spec := "fnExactIsCompleteCode", unfollowed := true, recurses := true, apart := false, narrowed := true }
def FnExactIsCompleteCodeUptoSaid : Prop := fnExactIsCompleteCodeUptoRow.holds Try.pinned (OpenSpec.upto fnExactIsCompleteCodeSpec)

/-- 'laws.FnExactMeanLength', WHERE WHAT IT READS IS OF BULK AT MOST 1048576: true; the input reads as it did. -/
def fnExactMeanLengthUptoRow : OpenClaim := { program := "ytijmfienaoeboaa", sum := "dbb1baf22e3bf096567620be43007620f22f4941de4cc129f9397cbeb707baa2", func := "loop.example/g01142/laws.FnExactMeanLength", spec := "fnExactMeanLength", apart := false, narrowed := true }
def FnExactMeanLengthUptoSaid : Prop := fnExactMeanLengthUptoRow.holds Try.pinned (OpenSpec.upto fnExactMeanLengthSpec)

/-- 'laws.FnExactParsesOf', WHERE WHAT IT READS IS OF BULK AT MOST 1048576: true; the input reads as it did. -/
def fnExactParsesOfUptoRow : OpenClaim := { program := "ytijmfienaoeboaa", sum := "dbb1baf22e3bf096567620be43007620f22f4941de4cc129f9397cbeb707baa2", func := "loop.example/g01142/laws.FnExactParsesOf", spec := "fnExactParsesOf", unfollowed := true, recurses := true, apart := false, narrowed := true }
def FnExactParsesOfUptoSaid : Prop := fnExactParsesOfUptoRow.holds Try.pinned (OpenSpec.upto fnExactParsesOfSpec)

/-- 'laws.FnExactFlipLoss', WHERE WHAT IT READS IS OF BULK AT MOST 1048576: true; the input reads as it did. -/
def fnExactFlipLossUptoRow : OpenClaim := { program := "ytijmfienaoeboaa", sum := "dbb1baf22e3bf096567620be43007620f22f4941de4cc129f9397cbeb707baa2", func := "loop.example/g01142/laws.FnExactFlipLoss", spec := "fnExactFlipLoss", inPlace := ["internal/abi.NoEscape"], unfollowed := true, recurses := true, apart := false, narrowed := true }
def FnExactFlipLossUptoSaid : Prop := fnExactFlipLossUptoRow.holds Try.pinned (OpenSpec.upto fnExactFlipLossSpec)

/-- 'laws.FnExactCanonicalWords', WHERE WHAT IT READS IS OF BULK AT MOST 1048576: true; the input reads as it did. -/
def fnExactCanonicalWordsUptoRow : OpenClaim := { program := "ytijmfienaoeboaa", sum := "dbb1baf22e3bf096567620be43007620f22f4941de4cc129f9397cbeb707baa2", func := "loop.example/g01142/laws.FnExactCanonicalWords", spec := "fnExactCanonicalWords", unfollowed := true, recurses := true, apart := false, narrowed := true }
def FnExactCanonicalWordsUptoSaid : Prop := fnExactCanonicalWordsUptoRow.holds Try.pinned (OpenSpec.upto fnExactCanonicalWordsSpec)

/-- 'laws.FnExactBestLengths', WHERE WHAT IT READS IS OF BULK AT MOST 1048576: true; the input reads as it did. -/
def fnExactBestLengthsUptoRow : OpenClaim := { program := "ytijmfienaoeboaa", sum := "dbb1baf22e3bf096567620be43007620f22f4941de4cc129f9397cbeb707baa2", func := "loop.example/g01142/laws.FnExactBestLengths", spec := "fnExactBestLengths", unfollowed := true, recurses := true, apart := false, narrowed := true }
def FnExactBestLengthsUptoSaid : Prop := fnExactBestLengthsUptoRow.holds Try.pinned (OpenSpec.upto fnExactBestLengthsSpec)

/-- 'laws.FnPlaces', WHERE WHAT IT READS IS OF BULK AT MOST 1048576: true; the input reads as it did. -/
def fnPlacesUptoRow : OpenClaim := { program := "ytijmfienaoeboaa", sum := "dbb1baf22e3bf096567620be43007620f22f4941de4cc129f9397cbeb707baa2", func := "loop.example/g01142/laws.FnPlaces", spec := "fnPlaces", inPlace := ["internal/bytealg.IndexByte", "internal/bytealg.Index", "internal/abi.NoEscape"], named := ["internal/bytealg.MaxLen"], apart := false, narrowed := true }
def FnPlacesUptoSaid : Prop := fnPlacesUptoRow.holds Try.pinned (OpenSpec.upto fnPlacesSpec)

/-- 'laws.FnKnownGraphs', WHERE WHAT IT READS IS OF BULK AT MOST 1048576: true; the input reads as it did. -/
def fnKnownGraphsUptoRow : OpenClaim := { program := "ytijmfienaoeboaa", sum := "dbb1baf22e3bf096567620be43007620f22f4941de4cc129f9397cbeb707baa2", func := "loop.example/g01142/laws.FnKnownGraphs", spec := "fnKnownGraphs", apart := false, narrowed := true }
def FnKnownGraphsUptoSaid : Prop := fnKnownGraphsUptoRow.holds Try.pinned (OpenSpec.upto fnKnownGraphsSpec)

/-- 'laws.FnExactMakeBlockCode', WHERE WHAT IT READS IS OF BULK AT MOST 1048576: true; the input reads as it did. -/
def fnExactMakeBlockCodeUptoRow : OpenClaim := { program := "ytijmfienaoeboaa", sum := "dbb1baf22e3bf096567620be43007620f22f4941de4cc129f9397cbeb707baa2", func := "loop.example/g01142/laws.FnExactMakeBlockCode", spec := "fnExactMakeBlockCode", inPlace := ["internal/abi.NoEscape", "internal/bytealg.MakeNoZero", "internal/bytealg.CountString", "internal/bytealg.IndexByteString", "internal/bytealg.IndexString"], named := ["internal/bytealg.MaxLen"], apart := false, narrowed := true }
def FnExactMakeBlockCodeUptoSaid : Prop := fnExactMakeBlockCodeUptoRow.holds Try.pinned (OpenSpec.upto fnExactMakeBlockCodeSpec)

end Rows
end Go.Proofs.Ytijmfienaoeboaa
