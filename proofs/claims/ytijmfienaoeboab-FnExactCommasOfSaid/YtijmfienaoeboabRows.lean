/-
  No cell of these rows narrows 'for every input' (looked for: loops, veiled, ifaces, maps, wideKeys, modest, calm, conditions, laid).
  DERIVED. THE GIVEN ROWS OF THIS SEAT. 12 by the template 'for every input the law returns true; each argument reads behind the call as it read before'; 0 by the template 'total and deterministic' (their statements: YtijmfienaoeboabTotals.lean).
  GIVEN WITH THE SEED: the statements are not yours to turn. If you find one false, say at which input.
  Laid BY PROGRAM, IN A SANDBOX (cutbox-rows.mjs): the forced cells as the released guide's own fill.sh prints them over the translation c8b09a51c12d7615… (all of the seat's roots in one cut). By AI agents, Wed Nov 11 2026. No macro, syntax, notation, axiom, sorry.
-/
import Derived.Test.YtijmfienaoeboabChecked
import GoSem.Claim
import GoSem.ClaimJoined
import GoSem.ClaimMapViews
import Derived.JoinedTies
import Derived.KernelRfl
namespace Go.Proofs.Ytijmfienaoeboab
/- THE CELL 'sum', in the pinned program and in every row, IS THE sha256 OF THE DUMP (.gsa) THAT YtijmfienaoeboabProg.lean LOADS. Nothing in Lean hashes anything: it is a label: what it is worth is what the hold of that sum in a sandbox is worth. -/
noncomputable def Try.pinned : Pinned := { name := "ytijmfienaoeboab", sum := "c8b09a51c12d7615937b1cfd54b6fb82479ab94c4757f498645866276c33796e", checked := Try.checked }
namespace Rows
def none {H : Type} : Left H := { results := [], args := [] }

/-- 'laws.FnExactIsDecodable': WHATEVER THE INPUT: true; the input reads as it did. -/
def fnExactIsDecodableSpec : ChangeSpec := { name := "fnExactIsDecodable", fn := fun _ => fun
  | [d] => { results := [.lit (.bool true)], args := [d] }
  | _ => none }
def fnExactIsDecodableRow : OpenClaim := { program := "ytijmfienaoeboab", sum := "c8b09a51c12d7615937b1cfd54b6fb82479ab94c4757f498645866276c33796e", func := "loop.example/g01142/laws.FnExactIsDecodable", spec := "fnExactIsDecodable", unfollowed := true, recurses := true, apart := false }
def FnExactIsDecodableSaid : Prop := fnExactIsDecodableRow.holds Try.pinned (OpenSpec.ofChange fnExactIsDecodableSpec)

/-- ITS FALSE NEIGHBOUR: 'it returns false'. Refute it at one input. -/
def fnExactIsDecodableWrong : ChangeSpec := { name := "fnExactIsDecodable", fn := fun _ => fun
  | [d] => { results := [.lit (.bool false)], args := [d] }
  | _ => none }
def FnExactIsDecodableWrongFalsely : Prop := fnExactIsDecodableRow.holds Try.pinned (OpenSpec.ofChange fnExactIsDecodableWrong)

/-- 'laws.FnExactShortestClash': WHATEVER THE INPUT: true; the input reads as it did. -/
def fnExactShortestClashSpec : ChangeSpec := { name := "fnExactShortestClash", fn := fun _ => fun
  | [d] => { results := [.lit (.bool true)], args := [d] }
  | _ => none }
def fnExactShortestClashRow : OpenClaim := { program := "ytijmfienaoeboab", sum := "c8b09a51c12d7615937b1cfd54b6fb82479ab94c4757f498645866276c33796e", func := "loop.example/g01142/laws.FnExactShortestClash", spec := "fnExactShortestClash", unfollowed := true, recurses := true, apart := false }
def FnExactShortestClashSaid : Prop := fnExactShortestClashRow.holds Try.pinned (OpenSpec.ofChange fnExactShortestClashSpec)

/-- ITS FALSE NEIGHBOUR: 'it returns false'. Refute it at one input. -/
def fnExactShortestClashWrong : ChangeSpec := { name := "fnExactShortestClash", fn := fun _ => fun
  | [d] => { results := [.lit (.bool false)], args := [d] }
  | _ => none }
def FnExactShortestClashWrongFalsely : Prop := fnExactShortestClashRow.holds Try.pinned (OpenSpec.ofChange fnExactShortestClashWrong)

/-- 'laws.FnExactDecodeWords': WHATEVER THE INPUT: true; the input reads as it did. -/
def fnExactDecodeWordsSpec : ChangeSpec := { name := "fnExactDecodeWords", fn := fun _ => fun
  | [d1, d2] => { results := [.lit (.bool true)], args := [d1, d2] }
  | _ => none }
def fnExactDecodeWordsRow : OpenClaim := { program := "ytijmfienaoeboab", sum := "c8b09a51c12d7615937b1cfd54b6fb82479ab94c4757f498645866276c33796e", func := "loop.example/g01142/laws.FnExactDecodeWords", spec := "fnExactDecodeWords", unfollowed := true, recurses := true, apart := false }
def FnExactDecodeWordsSaid : Prop := fnExactDecodeWordsRow.holds Try.pinned (OpenSpec.ofChange fnExactDecodeWordsSpec)

/-- ITS FALSE NEIGHBOUR: 'it returns false'. Refute it at one input. -/
def fnExactDecodeWordsWrong : ChangeSpec := { name := "fnExactDecodeWords", fn := fun _ => fun
  | [d1, d2] => { results := [.lit (.bool false)], args := [d1, d2] }
  | _ => none }
def FnExactDecodeWordsWrongFalsely : Prop := fnExactDecodeWordsRow.holds Try.pinned (OpenSpec.ofChange fnExactDecodeWordsWrong)

/-- 'laws.FnExactSyncWord': WHATEVER THE INPUT: true; the input reads as it did. -/
def fnExactSyncWordSpec : ChangeSpec := { name := "fnExactSyncWord", fn := fun _ => fun
  | [d] => { results := [.lit (.bool true)], args := [d] }
  | _ => none }
def fnExactSyncWordRow : OpenClaim := { program := "ytijmfienaoeboab", sum := "c8b09a51c12d7615937b1cfd54b6fb82479ab94c4757f498645866276c33796e", func := "loop.example/g01142/laws.FnExactSyncWord", spec := "fnExactSyncWord", unfollowed := true, recurses := true, apart := false }
def FnExactSyncWordSaid : Prop := fnExactSyncWordRow.holds Try.pinned (OpenSpec.ofChange fnExactSyncWordSpec)

/-- ITS FALSE NEIGHBOUR: 'it returns false'. Refute it at one input. -/
def fnExactSyncWordWrong : ChangeSpec := { name := "fnExactSyncWord", fn := fun _ => fun
  | [d] => { results := [.lit (.bool false)], args := [d] }
  | _ => none }
def FnExactSyncWordWrongFalsely : Prop := fnExactSyncWordRow.holds Try.pinned (OpenSpec.ofChange fnExactSyncWordWrong)

/-- 'laws.FnClashes': WHATEVER THE INPUT: true; the input reads as it did. -/
def fnClashesSpec : ChangeSpec := { name := "fnClashes", fn := fun _ => fun
  | [d1, d2] => { results := [.lit (.bool true)], args := [d1, d2] }
  | _ => none }
def fnClashesRow : OpenClaim := { program := "ytijmfienaoeboab", sum := "c8b09a51c12d7615937b1cfd54b6fb82479ab94c4757f498645866276c33796e", func := "loop.example/g01142/laws.FnClashes", spec := "fnClashes", unfollowed := true, recurses := true, apart := false }
def FnClashesSaid : Prop := fnClashesRow.holds Try.pinned (OpenSpec.ofChange fnClashesSpec)

/-- ITS FALSE NEIGHBOUR: 'it returns false'. Refute it at one input. -/
def fnClashesWrong : ChangeSpec := { name := "fnClashes", fn := fun _ => fun
  | [d1, d2] => { results := [.lit (.bool false)], args := [d1, d2] }
  | _ => none }
def FnClashesWrongFalsely : Prop := fnClashesRow.holds Try.pinned (OpenSpec.ofChange fnClashesWrong)

/-- 'laws.FnSynchronised': WHATEVER THE INPUT: true; the input reads as it did. -/
def fnSynchronisedSpec : ChangeSpec := { name := "fnSynchronised", fn := fun _ => fun
  | [d1, d2] => { results := [.lit (.bool true)], args := [d1, d2] }
  | _ => none }
def fnSynchronisedRow : OpenClaim := { program := "ytijmfienaoeboab", sum := "c8b09a51c12d7615937b1cfd54b6fb82479ab94c4757f498645866276c33796e", func := "loop.example/g01142/laws.FnSynchronised", spec := "fnSynchronised", inPlace := ["internal/abi.NoEscape"], unfollowed := true, recurses := true, apart := false }
def FnSynchronisedSaid : Prop := fnSynchronisedRow.holds Try.pinned (OpenSpec.ofChange fnSynchronisedSpec)

/-- ITS FALSE NEIGHBOUR: 'it returns false'. Refute it at one input. -/
def fnSynchronisedWrong : ChangeSpec := { name := "fnSynchronised", fn := fun _ => fun
  | [d1, d2] => { results := [.lit (.bool false)], args := [d1, d2] }
  | _ => none }
def FnSynchronisedWrongFalsely : Prop := fnSynchronisedRow.holds Try.pinned (OpenSpec.ofChange fnSynchronisedWrong)

/-- 'laws.FnBestLengths': WHATEVER THE INPUT: true; the input reads as it did. -/
def fnBestLengthsSpec : ChangeSpec := { name := "fnBestLengths", fn := fun _ => fun
  | [d1, d2] => { results := [.lit (.bool true)], args := [d1, d2] }
  | _ => none }
def fnBestLengthsRow : OpenClaim := { program := "ytijmfienaoeboab", sum := "c8b09a51c12d7615937b1cfd54b6fb82479ab94c4757f498645866276c33796e", func := "loop.example/g01142/laws.FnBestLengths", spec := "fnBestLengths", unfollowed := true, recurses := true, apart := false }
def FnBestLengthsSaid : Prop := fnBestLengthsRow.holds Try.pinned (OpenSpec.ofChange fnBestLengthsSpec)

/-- ITS FALSE NEIGHBOUR: 'it returns false'. Refute it at one input. -/
def fnBestLengthsWrong : ChangeSpec := { name := "fnBestLengths", fn := fun _ => fun
  | [d1, d2] => { results := [.lit (.bool false)], args := [d1, d2] }
  | _ => none }
def FnBestLengthsWrongFalsely : Prop := fnBestLengthsRow.holds Try.pinned (OpenSpec.ofChange fnBestLengthsWrong)

/-- 'laws.FnExactIsComma': WHATEVER THE INPUT: true; the input reads as it did. -/
def fnExactIsCommaSpec : ChangeSpec := { name := "fnExactIsComma", fn := fun _ => fun
  | [d1, d2] => { results := [.lit (.bool true)], args := [d1, d2] }
  | _ => none }
def fnExactIsCommaRow : OpenClaim := { program := "ytijmfienaoeboab", sum := "c8b09a51c12d7615937b1cfd54b6fb82479ab94c4757f498645866276c33796e", func := "loop.example/g01142/laws.FnExactIsComma", spec := "fnExactIsComma", inPlace := ["internal/bytealg.CountString", "internal/bytealg.IndexByteString", "internal/bytealg.IndexString"], unfollowed := true, recurses := true, named := ["internal/bytealg.MaxLen"], apart := false }
def FnExactIsCommaSaid : Prop := fnExactIsCommaRow.holds Try.pinned (OpenSpec.ofChange fnExactIsCommaSpec)

/-- ITS FALSE NEIGHBOUR: 'it returns false'. Refute it at one input. -/
def fnExactIsCommaWrong : ChangeSpec := { name := "fnExactIsComma", fn := fun _ => fun
  | [d1, d2] => { results := [.lit (.bool false)], args := [d1, d2] }
  | _ => none }
def FnExactIsCommaWrongFalsely : Prop := fnExactIsCommaRow.holds Try.pinned (OpenSpec.ofChange fnExactIsCommaWrong)

/-- 'laws.FnExactCommasOf': WHATEVER THE INPUT: true; the input reads as it did. -/
def fnExactCommasOfSpec : ChangeSpec := { name := "fnExactCommasOf", fn := fun _ => fun
  | [d1, d2] => { results := [.lit (.bool true)], args := [d1, d2] }
  | _ => none }
def fnExactCommasOfRow : OpenClaim := { program := "ytijmfienaoeboab", sum := "c8b09a51c12d7615937b1cfd54b6fb82479ab94c4757f498645866276c33796e", func := "loop.example/g01142/laws.FnExactCommasOf", spec := "fnExactCommasOf", inPlace := ["internal/bytealg.CountString", "internal/bytealg.IndexByteString", "internal/bytealg.IndexString"], unfollowed := true, recurses := true, named := ["internal/bytealg.MaxLen"], apart := false }
def FnExactCommasOfSaid : Prop := fnExactCommasOfRow.holds Try.pinned (OpenSpec.ofChange fnExactCommasOfSpec)

/-- ITS FALSE NEIGHBOUR: 'it returns false'. Refute it at one input. -/
def fnExactCommasOfWrong : ChangeSpec := { name := "fnExactCommasOf", fn := fun _ => fun
  | [d1, d2] => { results := [.lit (.bool false)], args := [d1, d2] }
  | _ => none }
def FnExactCommasOfWrongFalsely : Prop := fnExactCommasOfRow.holds Try.pinned (OpenSpec.ofChange fnExactCommasOfWrong)

/-- 'laws.FnExactSumRange': WHATEVER THE INPUT: true; the input reads as it did. -/
def fnExactSumRangeSpec : ChangeSpec := { name := "fnExactSumRange", fn := fun _ => fun
  | [d] => { results := [.lit (.bool true)], args := [d] }
  | _ => none }
def fnExactSumRangeRow : OpenClaim := { program := "ytijmfienaoeboab", sum := "c8b09a51c12d7615937b1cfd54b6fb82479ab94c4757f498645866276c33796e", func := "loop.example/g01142/laws.FnExactSumRange", spec := "fnExactSumRange", inPlace := ["internal/bytealg.CountString", "internal/bytealg.IndexByteString", "internal/bytealg.IndexString"], unfollowed := true, recurses := true, named := ["internal/bytealg.MaxLen"], apart := false }
def FnExactSumRangeSaid : Prop := fnExactSumRangeRow.holds Try.pinned (OpenSpec.ofChange fnExactSumRangeSpec)

/-- ITS FALSE NEIGHBOUR: 'it returns false'. Refute it at one input. -/
def fnExactSumRangeWrong : ChangeSpec := { name := "fnExactSumRange", fn := fun _ => fun
  | [d] => { results := [.lit (.bool false)], args := [d] }
  | _ => none }
def FnExactSumRangeWrongFalsely : Prop := fnExactSumRangeRow.holds Try.pinned (OpenSpec.ofChange fnExactSumRangeWrong)

/-- 'laws.FnExactRunBound': WHATEVER THE INPUT: true; the input reads as it did. -/
def fnExactRunBoundSpec : ChangeSpec := { name := "fnExactRunBound", fn := fun _ => fun
  | [d] => { results := [.lit (.bool true)], args := [d] }
  | _ => none }
def fnExactRunBoundRow : OpenClaim := { program := "ytijmfienaoeboab", sum := "c8b09a51c12d7615937b1cfd54b6fb82479ab94c4757f498645866276c33796e", func := "loop.example/g01142/laws.FnExactRunBound", spec := "fnExactRunBound", inPlace := ["internal/bytealg.CountString", "internal/bytealg.IndexByteString", "internal/bytealg.IndexString"], unfollowed := true, recurses := true, named := ["internal/bytealg.MaxLen"], apart := false }
def FnExactRunBoundSaid : Prop := fnExactRunBoundRow.holds Try.pinned (OpenSpec.ofChange fnExactRunBoundSpec)

/-- ITS FALSE NEIGHBOUR: 'it returns false'. Refute it at one input. -/
def fnExactRunBoundWrong : ChangeSpec := { name := "fnExactRunBound", fn := fun _ => fun
  | [d] => { results := [.lit (.bool false)], args := [d] }
  | _ => none }
def FnExactRunBoundWrongFalsely : Prop := fnExactRunBoundRow.holds Try.pinned (OpenSpec.ofChange fnExactRunBoundWrong)

/-- 'laws.FnExactIsCodeVector': WHATEVER THE INPUT: true; the input reads as it did. -/
def fnExactIsCodeVectorSpec : ChangeSpec := { name := "fnExactIsCodeVector", fn := fun _ => fun
  | [d1, d2, d3, d4] => { results := [.lit (.bool true)], args := [d1, d2, d3, d4] }
  | _ => none }
def fnExactIsCodeVectorRow : OpenClaim := { program := "ytijmfienaoeboab", sum := "c8b09a51c12d7615937b1cfd54b6fb82479ab94c4757f498645866276c33796e", func := "loop.example/g01142/laws.FnExactIsCodeVector", spec := "fnExactIsCodeVector", apart := false }
def FnExactIsCodeVectorSaid : Prop := fnExactIsCodeVectorRow.holds Try.pinned (OpenSpec.ofChange fnExactIsCodeVectorSpec)

/-- ITS FALSE NEIGHBOUR: 'it returns false'. Refute it at one input. -/
def fnExactIsCodeVectorWrong : ChangeSpec := { name := "fnExactIsCodeVector", fn := fun _ => fun
  | [d1, d2, d3, d4] => { results := [.lit (.bool false)], args := [d1, d2, d3, d4] }
  | _ => none }
def FnExactIsCodeVectorWrongFalsely : Prop := fnExactIsCodeVectorRow.holds Try.pinned (OpenSpec.ofChange fnExactIsCodeVectorWrong)

/- THE SECOND FORM. 'bulk': how many values and letters a reading holds, each counted each time it is reached (what is shared counts as often as it is met; a slice's spare places count too). A statement '..UptoSaid' is the law's where the arguments, and the package variables that the reading takes, are together of bulk at most 1048576: NARROWER than '..Said'. Prove '..Said' where nothing that the law and all that it calls make is longer than what came in: it says more and counts as full. Else prove '..UptoSaid'. A law counts once. -/
mutual
def uptoBulk {H : Type} : DataW H → Nat
  | .lit (.string bytes) => bytes.length + 1
  | .lit _ => 1
  | .nil => 1
  | .ptr d => uptoBulk d + 1
  | .slice elems spare => uptoBulkAll elems + uptoBulkAll spare + 1
  | .agg parts => uptoBulkAll parts + 1
  | .iface _ d => uptoBulk d + 1
  | .map entries => uptoBulkEntries entries + 1
  | .held _ => 1
def uptoBulkAll {H : Type} : List (DataW H) → Nat
  | [] => 0
  | d :: r => uptoBulk d + uptoBulkAll r
def uptoBulkEntries {H : Type} : List (Lit × DataW H) → Nat
  | [] => 0
  | x :: r => uptoBulkEntry x + uptoBulkEntries r
def uptoBulkEntry {H : Type} : Lit × DataW H → Nat
  | (.string bytes, d) => bytes.length + uptoBulk d + 1
  | (_, d) => uptoBulk d + 1
 end
def uptoSmall : (H : Type) → List (DataW H) → Bool := fun _ ds => decide (uptoBulkAll ds ≤ 1048576)
def OpenSpec.upto (s : _root_.Go.ChangeSpec) : _root_.Go.OpenSpec := { _root_.Go.OpenSpec.ofChange s with cond := some uptoSmall }

/-- 'laws.FnExactIsDecodable', WHERE WHAT IT READS IS OF BULK AT MOST 1048576: true; the input reads as it did. -/
def fnExactIsDecodableUptoRow : OpenClaim := { program := "ytijmfienaoeboab", sum := "c8b09a51c12d7615937b1cfd54b6fb82479ab94c4757f498645866276c33796e", func := "loop.example/g01142/laws.FnExactIsDecodable", spec := "fnExactIsDecodable", unfollowed := true, recurses := true, apart := false, narrowed := true }
def FnExactIsDecodableUptoSaid : Prop := fnExactIsDecodableUptoRow.holds Try.pinned (OpenSpec.upto fnExactIsDecodableSpec)

/-- 'laws.FnExactShortestClash', WHERE WHAT IT READS IS OF BULK AT MOST 1048576: true; the input reads as it did. -/
def fnExactShortestClashUptoRow : OpenClaim := { program := "ytijmfienaoeboab", sum := "c8b09a51c12d7615937b1cfd54b6fb82479ab94c4757f498645866276c33796e", func := "loop.example/g01142/laws.FnExactShortestClash", spec := "fnExactShortestClash", unfollowed := true, recurses := true, apart := false, narrowed := true }
def FnExactShortestClashUptoSaid : Prop := fnExactShortestClashUptoRow.holds Try.pinned (OpenSpec.upto fnExactShortestClashSpec)

/-- 'laws.FnExactDecodeWords', WHERE WHAT IT READS IS OF BULK AT MOST 1048576: true; the input reads as it did. -/
def fnExactDecodeWordsUptoRow : OpenClaim := { program := "ytijmfienaoeboab", sum := "c8b09a51c12d7615937b1cfd54b6fb82479ab94c4757f498645866276c33796e", func := "loop.example/g01142/laws.FnExactDecodeWords", spec := "fnExactDecodeWords", unfollowed := true, recurses := true, apart := false, narrowed := true }
def FnExactDecodeWordsUptoSaid : Prop := fnExactDecodeWordsUptoRow.holds Try.pinned (OpenSpec.upto fnExactDecodeWordsSpec)

/-- 'laws.FnExactSyncWord', WHERE WHAT IT READS IS OF BULK AT MOST 1048576: true; the input reads as it did. -/
def fnExactSyncWordUptoRow : OpenClaim := { program := "ytijmfienaoeboab", sum := "c8b09a51c12d7615937b1cfd54b6fb82479ab94c4757f498645866276c33796e", func := "loop.example/g01142/laws.FnExactSyncWord", spec := "fnExactSyncWord", unfollowed := true, recurses := true, apart := false, narrowed := true }
def FnExactSyncWordUptoSaid : Prop := fnExactSyncWordUptoRow.holds Try.pinned (OpenSpec.upto fnExactSyncWordSpec)

/-- 'laws.FnClashes', WHERE WHAT IT READS IS OF BULK AT MOST 1048576: true; the input reads as it did. -/
def fnClashesUptoRow : OpenClaim := { program := "ytijmfienaoeboab", sum := "c8b09a51c12d7615937b1cfd54b6fb82479ab94c4757f498645866276c33796e", func := "loop.example/g01142/laws.FnClashes", spec := "fnClashes", unfollowed := true, recurses := true, apart := false, narrowed := true }
def FnClashesUptoSaid : Prop := fnClashesUptoRow.holds Try.pinned (OpenSpec.upto fnClashesSpec)

/-- 'laws.FnSynchronised', WHERE WHAT IT READS IS OF BULK AT MOST 1048576: true; the input reads as it did. -/
def fnSynchronisedUptoRow : OpenClaim := { program := "ytijmfienaoeboab", sum := "c8b09a51c12d7615937b1cfd54b6fb82479ab94c4757f498645866276c33796e", func := "loop.example/g01142/laws.FnSynchronised", spec := "fnSynchronised", inPlace := ["internal/abi.NoEscape"], unfollowed := true, recurses := true, apart := false, narrowed := true }
def FnSynchronisedUptoSaid : Prop := fnSynchronisedUptoRow.holds Try.pinned (OpenSpec.upto fnSynchronisedSpec)

/-- 'laws.FnBestLengths', WHERE WHAT IT READS IS OF BULK AT MOST 1048576: true; the input reads as it did. -/
def fnBestLengthsUptoRow : OpenClaim := { program := "ytijmfienaoeboab", sum := "c8b09a51c12d7615937b1cfd54b6fb82479ab94c4757f498645866276c33796e", func := "loop.example/g01142/laws.FnBestLengths", spec := "fnBestLengths", unfollowed := true, recurses := true, apart := false, narrowed := true }
def FnBestLengthsUptoSaid : Prop := fnBestLengthsUptoRow.holds Try.pinned (OpenSpec.upto fnBestLengthsSpec)

/-- 'laws.FnExactIsComma', WHERE WHAT IT READS IS OF BULK AT MOST 1048576: true; the input reads as it did. -/
def fnExactIsCommaUptoRow : OpenClaim := { program := "ytijmfienaoeboab", sum := "c8b09a51c12d7615937b1cfd54b6fb82479ab94c4757f498645866276c33796e", func := "loop.example/g01142/laws.FnExactIsComma", spec := "fnExactIsComma", inPlace := ["internal/bytealg.CountString", "internal/bytealg.IndexByteString", "internal/bytealg.IndexString"], unfollowed := true, recurses := true, named := ["internal/bytealg.MaxLen"], apart := false, narrowed := true }
def FnExactIsCommaUptoSaid : Prop := fnExactIsCommaUptoRow.holds Try.pinned (OpenSpec.upto fnExactIsCommaSpec)

/-- 'laws.FnExactCommasOf', WHERE WHAT IT READS IS OF BULK AT MOST 1048576: true; the input reads as it did. -/
def fnExactCommasOfUptoRow : OpenClaim := { program := "ytijmfienaoeboab", sum := "c8b09a51c12d7615937b1cfd54b6fb82479ab94c4757f498645866276c33796e", func := "loop.example/g01142/laws.FnExactCommasOf", spec := "fnExactCommasOf", inPlace := ["internal/bytealg.CountString", "internal/bytealg.IndexByteString", "internal/bytealg.IndexString"], unfollowed := true, recurses := true, named := ["internal/bytealg.MaxLen"], apart := false, narrowed := true }
def FnExactCommasOfUptoSaid : Prop := fnExactCommasOfUptoRow.holds Try.pinned (OpenSpec.upto fnExactCommasOfSpec)

/-- 'laws.FnExactSumRange', WHERE WHAT IT READS IS OF BULK AT MOST 1048576: true; the input reads as it did. -/
def fnExactSumRangeUptoRow : OpenClaim := { program := "ytijmfienaoeboab", sum := "c8b09a51c12d7615937b1cfd54b6fb82479ab94c4757f498645866276c33796e", func := "loop.example/g01142/laws.FnExactSumRange", spec := "fnExactSumRange", inPlace := ["internal/bytealg.CountString", "internal/bytealg.IndexByteString", "internal/bytealg.IndexString"], unfollowed := true, recurses := true, named := ["internal/bytealg.MaxLen"], apart := false, narrowed := true }
def FnExactSumRangeUptoSaid : Prop := fnExactSumRangeUptoRow.holds Try.pinned (OpenSpec.upto fnExactSumRangeSpec)

/-- 'laws.FnExactRunBound', WHERE WHAT IT READS IS OF BULK AT MOST 1048576: true; the input reads as it did. -/
def fnExactRunBoundUptoRow : OpenClaim := { program := "ytijmfienaoeboab", sum := "c8b09a51c12d7615937b1cfd54b6fb82479ab94c4757f498645866276c33796e", func := "loop.example/g01142/laws.FnExactRunBound", spec := "fnExactRunBound", inPlace := ["internal/bytealg.CountString", "internal/bytealg.IndexByteString", "internal/bytealg.IndexString"], unfollowed := true, recurses := true, named := ["internal/bytealg.MaxLen"], apart := false, narrowed := true }
def FnExactRunBoundUptoSaid : Prop := fnExactRunBoundUptoRow.holds Try.pinned (OpenSpec.upto fnExactRunBoundSpec)

/-- 'laws.FnExactIsCodeVector', WHERE WHAT IT READS IS OF BULK AT MOST 1048576: true; the input reads as it did. -/
def fnExactIsCodeVectorUptoRow : OpenClaim := { program := "ytijmfienaoeboab", sum := "c8b09a51c12d7615937b1cfd54b6fb82479ab94c4757f498645866276c33796e", func := "loop.example/g01142/laws.FnExactIsCodeVector", spec := "fnExactIsCodeVector", apart := false, narrowed := true }
def FnExactIsCodeVectorUptoSaid : Prop := fnExactIsCodeVectorUptoRow.holds Try.pinned (OpenSpec.upto fnExactIsCodeVectorSpec)

end Rows
end Go.Proofs.Ytijmfienaoeboab
