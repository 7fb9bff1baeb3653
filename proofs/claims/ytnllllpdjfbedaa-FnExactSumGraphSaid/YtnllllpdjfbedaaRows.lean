/-
  No cell of these rows narrows 'for every input' (looked for: loops, veiled, ifaces, maps, wideKeys, modest, calm, conditions, laid).
  DERIVED. THE GIVEN ROWS OF THIS SEAT. 12 by the template 'for every input the law returns true; each argument reads behind the call as it read before'; 0 by the template 'total and deterministic' (their statements: YtnllllpdjfbedaaTotals.lean).
  GIVEN WITH THE SEED: the statements are not yours to turn. If you find one false, say at which input.
  Laid BY PROGRAM, IN A SANDBOX (cutbox-rows.mjs): the forced cells as the released guide's own fill.sh prints them over the translation 98fe6aaf9cbdb540… (all of the seat's roots in one cut). By AI agents, Wed Nov 11 2026. No macro, syntax, notation, axiom, sorry.
-/
import Derived.Test.YtnllllpdjfbedaaChecked
import GoSem.Claim
import GoSem.ClaimJoined
import GoSem.ClaimMapViews
import Derived.JoinedTies
import Derived.KernelRfl
namespace Go.Proofs.Ytnllllpdjfbedaa
/- THE CELL 'sum', in the pinned program and in every row, IS THE sha256 OF THE DUMP (.gsa) THAT YtnllllpdjfbedaaProg.lean LOADS. Nothing in Lean hashes anything: it is a label: what it is worth is what the hold of that sum in a sandbox is worth. -/
noncomputable def Try.pinned : Pinned := { name := "ytnllllpdjfbedaa", sum := "98fe6aaf9cbdb5408d646b05d887abeeceebdee0c2fd2a8bd7bd8641f47da1ee", checked := Try.checked }
namespace Rows
def none {H : Type} : Left H := { results := [], args := [] }

/-- 'laws.FnExactValidGraph': WHATEVER THE INPUT: true; the input reads as it did. -/
def fnExactValidGraphSpec : ChangeSpec := { name := "fnExactValidGraph", fn := fun _ => fun
  | [d] => { results := [.lit (.bool true)], args := [d] }
  | _ => none }
def fnExactValidGraphRow : OpenClaim := { program := "ytnllllpdjfbedaa", sum := "98fe6aaf9cbdb5408d646b05d887abeeceebdee0c2fd2a8bd7bd8641f47da1ee", func := "loop.example/g01142/laws.FnExactValidGraph", spec := "fnExactValidGraph", apart := false }
def FnExactValidGraphSaid : Prop := fnExactValidGraphRow.holds Try.pinned (OpenSpec.ofChange fnExactValidGraphSpec)

/-- ITS FALSE NEIGHBOUR: 'it returns false'. Refute it at one input. -/
def fnExactValidGraphWrong : ChangeSpec := { name := "fnExactValidGraph", fn := fun _ => fun
  | [d] => { results := [.lit (.bool false)], args := [d] }
  | _ => none }
def FnExactValidGraphWrongFalsely : Prop := fnExactValidGraphRow.holds Try.pinned (OpenSpec.ofChange fnExactValidGraphWrong)

/-- 'laws.FnExactRunGraph': WHATEVER THE INPUT: true; the input reads as it did. -/
def fnExactRunGraphSpec : ChangeSpec := { name := "fnExactRunGraph", fn := fun _ => fun
  | [d1, d2] => { results := [.lit (.bool true)], args := [d1, d2] }
  | _ => none }
def fnExactRunGraphRow : OpenClaim := { program := "ytnllllpdjfbedaa", sum := "98fe6aaf9cbdb5408d646b05d887abeeceebdee0c2fd2a8bd7bd8641f47da1ee", func := "loop.example/g01142/laws.FnExactRunGraph", spec := "fnExactRunGraph", apart := false }
def FnExactRunGraphSaid : Prop := fnExactRunGraphRow.holds Try.pinned (OpenSpec.ofChange fnExactRunGraphSpec)

/-- ITS FALSE NEIGHBOUR: 'it returns false'. Refute it at one input. -/
def fnExactRunGraphWrong : ChangeSpec := { name := "fnExactRunGraph", fn := fun _ => fun
  | [d1, d2] => { results := [.lit (.bool false)], args := [d1, d2] }
  | _ => none }
def FnExactRunGraphWrongFalsely : Prop := fnExactRunGraphRow.holds Try.pinned (OpenSpec.ofChange fnExactRunGraphWrong)

/-- 'laws.FnExactSumGraph': WHATEVER THE INPUT: true; the input reads as it did. -/
def fnExactSumGraphSpec : ChangeSpec := { name := "fnExactSumGraph", fn := fun _ => fun
  | [d] => { results := [.lit (.bool true)], args := [d] }
  | _ => none }
def fnExactSumGraphRow : OpenClaim := { program := "ytnllllpdjfbedaa", sum := "98fe6aaf9cbdb5408d646b05d887abeeceebdee0c2fd2a8bd7bd8641f47da1ee", func := "loop.example/g01142/laws.FnExactSumGraph", spec := "fnExactSumGraph", apart := false }
def FnExactSumGraphSaid : Prop := fnExactSumGraphRow.holds Try.pinned (OpenSpec.ofChange fnExactSumGraphSpec)

/-- ITS FALSE NEIGHBOUR: 'it returns false'. Refute it at one input. -/
def fnExactSumGraphWrong : ChangeSpec := { name := "fnExactSumGraph", fn := fun _ => fun
  | [d] => { results := [.lit (.bool false)], args := [d] }
  | _ => none }
def FnExactSumGraphWrongFalsely : Prop := fnExactSumGraphRow.holds Try.pinned (OpenSpec.ofChange fnExactSumGraphWrong)

/-- 'laws.FnExactStateBehind': WHATEVER THE INPUT: true; the input reads as it did. -/
def fnExactStateBehindSpec : ChangeSpec := { name := "fnExactStateBehind", fn := fun _ => fun
  | [d1, d2, d3] => { results := [.lit (.bool true)], args := [d1, d2, d3] }
  | _ => none }
def fnExactStateBehindRow : OpenClaim := { program := "ytnllllpdjfbedaa", sum := "98fe6aaf9cbdb5408d646b05d887abeeceebdee0c2fd2a8bd7bd8641f47da1ee", func := "loop.example/g01142/laws.FnExactStateBehind", spec := "fnExactStateBehind", apart := false }
def FnExactStateBehindSaid : Prop := fnExactStateBehindRow.holds Try.pinned (OpenSpec.ofChange fnExactStateBehindSpec)

/-- ITS FALSE NEIGHBOUR: 'it returns false'. Refute it at one input. -/
def fnExactStateBehindWrong : ChangeSpec := { name := "fnExactStateBehind", fn := fun _ => fun
  | [d1, d2, d3] => { results := [.lit (.bool false)], args := [d1, d2, d3] }
  | _ => none }
def FnExactStateBehindWrongFalsely : Prop := fnExactStateBehindRow.holds Try.pinned (OpenSpec.ofChange fnExactStateBehindWrong)

/-- 'laws.FnExactIsAllowed': WHATEVER THE INPUT: true; the input reads as it did. -/
def fnExactIsAllowedSpec : ChangeSpec := { name := "fnExactIsAllowed", fn := fun _ => fun
  | [d1, d2, d3] => { results := [.lit (.bool true)], args := [d1, d2, d3] }
  | _ => none }
def fnExactIsAllowedRow : OpenClaim := { program := "ytnllllpdjfbedaa", sum := "98fe6aaf9cbdb5408d646b05d887abeeceebdee0c2fd2a8bd7bd8641f47da1ee", func := "loop.example/g01142/laws.FnExactIsAllowed", spec := "fnExactIsAllowed", apart := false }
def FnExactIsAllowedSaid : Prop := fnExactIsAllowedRow.holds Try.pinned (OpenSpec.ofChange fnExactIsAllowedSpec)

/-- ITS FALSE NEIGHBOUR: 'it returns false'. Refute it at one input. -/
def fnExactIsAllowedWrong : ChangeSpec := { name := "fnExactIsAllowed", fn := fun _ => fun
  | [d1, d2, d3] => { results := [.lit (.bool false)], args := [d1, d2, d3] }
  | _ => none }
def FnExactIsAllowedWrongFalsely : Prop := fnExactIsAllowedRow.holds Try.pinned (OpenSpec.ofChange fnExactIsAllowedWrong)

/-- 'laws.FnExactCountAllowed': WHATEVER THE INPUT: true; the input reads as it did. -/
def fnExactCountAllowedSpec : ChangeSpec := { name := "fnExactCountAllowed", fn := fun _ => fun
  | [d1, d2, d3] => { results := [.lit (.bool true)], args := [d1, d2, d3] }
  | _ => none }
def fnExactCountAllowedRow : OpenClaim := { program := "ytnllllpdjfbedaa", sum := "98fe6aaf9cbdb5408d646b05d887abeeceebdee0c2fd2a8bd7bd8641f47da1ee", func := "loop.example/g01142/laws.FnExactCountAllowed", spec := "fnExactCountAllowed", recurses := true, apart := false }
def FnExactCountAllowedSaid : Prop := fnExactCountAllowedRow.holds Try.pinned (OpenSpec.ofChange fnExactCountAllowedSpec)

/-- ITS FALSE NEIGHBOUR: 'it returns false'. Refute it at one input. -/
def fnExactCountAllowedWrong : ChangeSpec := { name := "fnExactCountAllowed", fn := fun _ => fun
  | [d1, d2, d3] => { results := [.lit (.bool false)], args := [d1, d2, d3] }
  | _ => none }
def FnExactCountAllowedWrongFalsely : Prop := fnExactCountAllowedRow.holds Try.pinned (OpenSpec.ofChange fnExactCountAllowedWrong)

/-- 'laws.FnExactBitsAt': WHATEVER THE INPUT: true; the input reads as it did. -/
def fnExactBitsAtSpec : ChangeSpec := { name := "fnExactBitsAt", fn := fun _ => fun
  | [d1, d2, d3, d4] => { results := [.lit (.bool true)], args := [d1, d2, d3, d4] }
  | _ => none }
def fnExactBitsAtRow : OpenClaim := { program := "ytnllllpdjfbedaa", sum := "98fe6aaf9cbdb5408d646b05d887abeeceebdee0c2fd2a8bd7bd8641f47da1ee", func := "loop.example/g01142/laws.FnExactBitsAt", spec := "fnExactBitsAt", recurses := true, apart := false }
def FnExactBitsAtSaid : Prop := fnExactBitsAtRow.holds Try.pinned (OpenSpec.ofChange fnExactBitsAtSpec)

/-- ITS FALSE NEIGHBOUR: 'it returns false'. Refute it at one input. -/
def fnExactBitsAtWrong : ChangeSpec := { name := "fnExactBitsAt", fn := fun _ => fun
  | [d1, d2, d3, d4] => { results := [.lit (.bool false)], args := [d1, d2, d3, d4] }
  | _ => none }
def FnExactBitsAtWrongFalsely : Prop := fnExactBitsAtRow.holds Try.pinned (OpenSpec.ofChange fnExactBitsAtWrong)

/-- 'laws.FnExactRankOfBits': WHATEVER THE INPUT: true; the input reads as it did. -/
def fnExactRankOfBitsSpec : ChangeSpec := { name := "fnExactRankOfBits", fn := fun _ => fun
  | [d1, d2, d3] => { results := [.lit (.bool true)], args := [d1, d2, d3] }
  | _ => none }
def fnExactRankOfBitsRow : OpenClaim := { program := "ytnllllpdjfbedaa", sum := "98fe6aaf9cbdb5408d646b05d887abeeceebdee0c2fd2a8bd7bd8641f47da1ee", func := "loop.example/g01142/laws.FnExactRankOfBits", spec := "fnExactRankOfBits", recurses := true, apart := false }
def FnExactRankOfBitsSaid : Prop := fnExactRankOfBitsRow.holds Try.pinned (OpenSpec.ofChange fnExactRankOfBitsSpec)

/-- ITS FALSE NEIGHBOUR: 'it returns false'. Refute it at one input. -/
def fnExactRankOfBitsWrong : ChangeSpec := { name := "fnExactRankOfBits", fn := fun _ => fun
  | [d1, d2, d3] => { results := [.lit (.bool false)], args := [d1, d2, d3] }
  | _ => none }
def FnExactRankOfBitsWrongFalsely : Prop := fnExactRankOfBitsRow.holds Try.pinned (OpenSpec.ofChange fnExactRankOfBitsWrong)

/-- 'laws.FnExactReachedFrom': WHATEVER THE INPUT: true; the input reads as it did. -/
def fnExactReachedFromSpec : ChangeSpec := { name := "fnExactReachedFrom", fn := fun _ => fun
  | [d1, d2] => { results := [.lit (.bool true)], args := [d1, d2] }
  | _ => none }
def fnExactReachedFromRow : OpenClaim := { program := "ytnllllpdjfbedaa", sum := "98fe6aaf9cbdb5408d646b05d887abeeceebdee0c2fd2a8bd7bd8641f47da1ee", func := "loop.example/g01142/laws.FnExactReachedFrom", spec := "fnExactReachedFrom", recurses := true, apart := false }
def FnExactReachedFromSaid : Prop := fnExactReachedFromRow.holds Try.pinned (OpenSpec.ofChange fnExactReachedFromSpec)

/-- ITS FALSE NEIGHBOUR: 'it returns false'. Refute it at one input. -/
def fnExactReachedFromWrong : ChangeSpec := { name := "fnExactReachedFrom", fn := fun _ => fun
  | [d1, d2] => { results := [.lit (.bool false)], args := [d1, d2] }
  | _ => none }
def FnExactReachedFromWrongFalsely : Prop := fnExactReachedFromRow.holds Try.pinned (OpenSpec.ofChange fnExactReachedFromWrong)

/-- 'laws.FnExactIsConnected': WHATEVER THE INPUT: true; the input reads as it did. -/
def fnExactIsConnectedSpec : ChangeSpec := { name := "fnExactIsConnected", fn := fun _ => fun
  | [d] => { results := [.lit (.bool true)], args := [d] }
  | _ => none }
def fnExactIsConnectedRow : OpenClaim := { program := "ytnllllpdjfbedaa", sum := "98fe6aaf9cbdb5408d646b05d887abeeceebdee0c2fd2a8bd7bd8641f47da1ee", func := "loop.example/g01142/laws.FnExactIsConnected", spec := "fnExactIsConnected", recurses := true, apart := false }
def FnExactIsConnectedSaid : Prop := fnExactIsConnectedRow.holds Try.pinned (OpenSpec.ofChange fnExactIsConnectedSpec)

/-- ITS FALSE NEIGHBOUR: 'it returns false'. Refute it at one input. -/
def fnExactIsConnectedWrong : ChangeSpec := { name := "fnExactIsConnected", fn := fun _ => fun
  | [d] => { results := [.lit (.bool false)], args := [d] }
  | _ => none }
def FnExactIsConnectedWrongFalsely : Prop := fnExactIsConnectedRow.holds Try.pinned (OpenSpec.ofChange fnExactIsConnectedWrong)

/-- 'laws.FnExactMergeGraph': WHATEVER THE INPUT: true; the input reads as it did. -/
def fnExactMergeGraphSpec : ChangeSpec := { name := "fnExactMergeGraph", fn := fun _ => fun
  | [d] => { results := [.lit (.bool true)], args := [d] }
  | _ => none }
def fnExactMergeGraphRow : OpenClaim := { program := "ytnllllpdjfbedaa", sum := "98fe6aaf9cbdb5408d646b05d887abeeceebdee0c2fd2a8bd7bd8641f47da1ee", func := "loop.example/g01142/laws.FnExactMergeGraph", spec := "fnExactMergeGraph", apart := false }
def FnExactMergeGraphSaid : Prop := fnExactMergeGraphRow.holds Try.pinned (OpenSpec.ofChange fnExactMergeGraphSpec)

/-- ITS FALSE NEIGHBOUR: 'it returns false'. Refute it at one input. -/
def fnExactMergeGraphWrong : ChangeSpec := { name := "fnExactMergeGraph", fn := fun _ => fun
  | [d] => { results := [.lit (.bool false)], args := [d] }
  | _ => none }
def FnExactMergeGraphWrongFalsely : Prop := fnExactMergeGraphRow.holds Try.pinned (OpenSpec.ofChange fnExactMergeGraphWrong)

/-- 'laws.FnExactFirstTelling': WHATEVER THE INPUT: true; the input reads as it did. -/
def fnExactFirstTellingSpec : ChangeSpec := { name := "fnExactFirstTelling", fn := fun _ => fun
  | [d1, d2, d3, d4] => { results := [.lit (.bool true)], args := [d1, d2, d3, d4] }
  | _ => none }
def fnExactFirstTellingRow : OpenClaim := { program := "ytnllllpdjfbedaa", sum := "98fe6aaf9cbdb5408d646b05d887abeeceebdee0c2fd2a8bd7bd8641f47da1ee", func := "loop.example/g01142/laws.FnExactFirstTelling", spec := "fnExactFirstTelling", apart := false }
def FnExactFirstTellingSaid : Prop := fnExactFirstTellingRow.holds Try.pinned (OpenSpec.ofChange fnExactFirstTellingSpec)

/-- ITS FALSE NEIGHBOUR: 'it returns false'. Refute it at one input. -/
def fnExactFirstTellingWrong : ChangeSpec := { name := "fnExactFirstTelling", fn := fun _ => fun
  | [d1, d2, d3, d4] => { results := [.lit (.bool false)], args := [d1, d2, d3, d4] }
  | _ => none }
def FnExactFirstTellingWrongFalsely : Prop := fnExactFirstTellingRow.holds Try.pinned (OpenSpec.ofChange fnExactFirstTellingWrong)

/- THE SECOND FORM. 'bulk': how many values and letters a reading holds, each counted each time it is reached (what is shared counts as often as it is met; a slice's spare places count too). A statement '..UptoSaid' is the law's where the arguments, and the package variables that the reading takes, are together of bulk at most 1048576: NARROWER than '..Said'. Prove '..Said' where nothing that the law and all that it calls make is longer than what came in: it says more and counts as full. Else prove '..UptoSaid'. A law counts once. -/
mutual
def uptoBulk {H : Type} : DataW H → Nat
  | .lit (.string bytes) => bytes.length + 1
  | .lit _ => 1
  | .nil => 1
  | .ptr d => uptoBulk d + 1
  | .slice elems spare => uptoBulkAll elems + uptoBulkAll spare + 1
  | .agg parts => uptoBulkAll parts + 1
  | .iface _ d => uptoBulk d + 1
  | .map entries => uptoBulkEntries entries + 1
  | .held _ => 1
def uptoBulkAll {H : Type} : List (DataW H) → Nat
  | [] => 0
  | d :: r => uptoBulk d + uptoBulkAll r
def uptoBulkEntries {H : Type} : List (Lit × DataW H) → Nat
  | [] => 0
  | x :: r => uptoBulkEntry x + uptoBulkEntries r
def uptoBulkEntry {H : Type} : Lit × DataW H → Nat
  | (.string bytes, d) => bytes.length + uptoBulk d + 1
  | (_, d) => uptoBulk d + 1
 end
def uptoSmall : (H : Type) → List (DataW H) → Bool := fun _ ds => decide (uptoBulkAll ds ≤ 1048576)
def OpenSpec.upto (s : _root_.Go.ChangeSpec) : _root_.Go.OpenSpec := { _root_.Go.OpenSpec.ofChange s with cond := some uptoSmall }

/-- 'laws.FnExactValidGraph', WHERE WHAT IT READS IS OF BULK AT MOST 1048576: true; the input reads as it did. -/
def fnExactValidGraphUptoRow : OpenClaim := { program := "ytnllllpdjfbedaa", sum := "98fe6aaf9cbdb5408d646b05d887abeeceebdee0c2fd2a8bd7bd8641f47da1ee", func := "loop.example/g01142/laws.FnExactValidGraph", spec := "fnExactValidGraph", apart := false, narrowed := true }
def FnExactValidGraphUptoSaid : Prop := fnExactValidGraphUptoRow.holds Try.pinned (OpenSpec.upto fnExactValidGraphSpec)

/-- 'laws.FnExactRunGraph', WHERE WHAT IT READS IS OF BULK AT MOST 1048576: true; the input reads as it did. -/
def fnExactRunGraphUptoRow : OpenClaim := { program := "ytnllllpdjfbedaa", sum := "98fe6aaf9cbdb5408d646b05d887abeeceebdee0c2fd2a8bd7bd8641f47da1ee", func := "loop.example/g01142/laws.FnExactRunGraph", spec := "fnExactRunGraph", apart := false, narrowed := true }
def FnExactRunGraphUptoSaid : Prop := fnExactRunGraphUptoRow.holds Try.pinned (OpenSpec.upto fnExactRunGraphSpec)

/-- 'laws.FnExactSumGraph', WHERE WHAT IT READS IS OF BULK AT MOST 1048576: true; the input reads as it did. -/
def fnExactSumGraphUptoRow : OpenClaim := { program := "ytnllllpdjfbedaa", sum := "98fe6aaf9cbdb5408d646b05d887abeeceebdee0c2fd2a8bd7bd8641f47da1ee", func := "loop.example/g01142/laws.FnExactSumGraph", spec := "fnExactSumGraph", apart := false, narrowed := true }
def FnExactSumGraphUptoSaid : Prop := fnExactSumGraphUptoRow.holds Try.pinned (OpenSpec.upto fnExactSumGraphSpec)

/-- 'laws.FnExactStateBehind', WHERE WHAT IT READS IS OF BULK AT MOST 1048576: true; the input reads as it did. -/
def fnExactStateBehindUptoRow : OpenClaim := { program := "ytnllllpdjfbedaa", sum := "98fe6aaf9cbdb5408d646b05d887abeeceebdee0c2fd2a8bd7bd8641f47da1ee", func := "loop.example/g01142/laws.FnExactStateBehind", spec := "fnExactStateBehind", apart := false, narrowed := true }
def FnExactStateBehindUptoSaid : Prop := fnExactStateBehindUptoRow.holds Try.pinned (OpenSpec.upto fnExactStateBehindSpec)

/-- 'laws.FnExactIsAllowed', WHERE WHAT IT READS IS OF BULK AT MOST 1048576: true; the input reads as it did. -/
def fnExactIsAllowedUptoRow : OpenClaim := { program := "ytnllllpdjfbedaa", sum := "98fe6aaf9cbdb5408d646b05d887abeeceebdee0c2fd2a8bd7bd8641f47da1ee", func := "loop.example/g01142/laws.FnExactIsAllowed", spec := "fnExactIsAllowed", apart := false, narrowed := true }
def FnExactIsAllowedUptoSaid : Prop := fnExactIsAllowedUptoRow.holds Try.pinned (OpenSpec.upto fnExactIsAllowedSpec)

/-- 'laws.FnExactCountAllowed', WHERE WHAT IT READS IS OF BULK AT MOST 1048576: true; the input reads as it did. -/
def fnExactCountAllowedUptoRow : OpenClaim := { program := "ytnllllpdjfbedaa", sum := "98fe6aaf9cbdb5408d646b05d887abeeceebdee0c2fd2a8bd7bd8641f47da1ee", func := "loop.example/g01142/laws.FnExactCountAllowed", spec := "fnExactCountAllowed", recurses := true, apart := false, narrowed := true }
def FnExactCountAllowedUptoSaid : Prop := fnExactCountAllowedUptoRow.holds Try.pinned (OpenSpec.upto fnExactCountAllowedSpec)

/-- 'laws.FnExactBitsAt', WHERE WHAT IT READS IS OF BULK AT MOST 1048576: true; the input reads as it did. -/
def fnExactBitsAtUptoRow : OpenClaim := { program := "ytnllllpdjfbedaa", sum := "98fe6aaf9cbdb5408d646b05d887abeeceebdee0c2fd2a8bd7bd8641f47da1ee", func := "loop.example/g01142/laws.FnExactBitsAt", spec := "fnExactBitsAt", recurses := true, apart := false, narrowed := true }
def FnExactBitsAtUptoSaid : Prop := fnExactBitsAtUptoRow.holds Try.pinned (OpenSpec.upto fnExactBitsAtSpec)

/-- 'laws.FnExactRankOfBits', WHERE WHAT IT READS IS OF BULK AT MOST 1048576: true; the input reads as it did. -/
def fnExactRankOfBitsUptoRow : OpenClaim := { program := "ytnllllpdjfbedaa", sum := "98fe6aaf9cbdb5408d646b05d887abeeceebdee0c2fd2a8bd7bd8641f47da1ee", func := "loop.example/g01142/laws.FnExactRankOfBits", spec := "fnExactRankOfBits", recurses := true, apart := false, narrowed := true }
def FnExactRankOfBitsUptoSaid : Prop := fnExactRankOfBitsUptoRow.holds Try.pinned (OpenSpec.upto fnExactRankOfBitsSpec)

/-- 'laws.FnExactReachedFrom', WHERE WHAT IT READS IS OF BULK AT MOST 1048576: true; the input reads as it did. -/
def fnExactReachedFromUptoRow : OpenClaim := { program := "ytnllllpdjfbedaa", sum := "98fe6aaf9cbdb5408d646b05d887abeeceebdee0c2fd2a8bd7bd8641f47da1ee", func := "loop.example/g01142/laws.FnExactReachedFrom", spec := "fnExactReachedFrom", recurses := true, apart := false, narrowed := true }
def FnExactReachedFromUptoSaid : Prop := fnExactReachedFromUptoRow.holds Try.pinned (OpenSpec.upto fnExactReachedFromSpec)

/-- 'laws.FnExactIsConnected', WHERE WHAT IT READS IS OF BULK AT MOST 1048576: true; the input reads as it did. -/
def fnExactIsConnectedUptoRow : OpenClaim := { program := "ytnllllpdjfbedaa", sum := "98fe6aaf9cbdb5408d646b05d887abeeceebdee0c2fd2a8bd7bd8641f47da1ee", func := "loop.example/g01142/laws.FnExactIsConnected", spec := "fnExactIsConnected", recurses := true, apart := false, narrowed := true }
def FnExactIsConnectedUptoSaid : Prop := fnExactIsConnectedUptoRow.holds Try.pinned (OpenSpec.upto fnExactIsConnectedSpec)

/-- 'laws.FnExactMergeGraph', WHERE WHAT IT READS IS OF BULK AT MOST 1048576: true; the input reads as it did. -/
def fnExactMergeGraphUptoRow : OpenClaim := { program := "ytnllllpdjfbedaa", sum := "98fe6aaf9cbdb5408d646b05d887abeeceebdee0c2fd2a8bd7bd8641f47da1ee", func := "loop.example/g01142/laws.FnExactMergeGraph", spec := "fnExactMergeGraph", apart := false, narrowed := true }
def FnExactMergeGraphUptoSaid : Prop := fnExactMergeGraphUptoRow.holds Try.pinned (OpenSpec.upto fnExactMergeGraphSpec)

/-- 'laws.FnExactFirstTelling', WHERE WHAT IT READS IS OF BULK AT MOST 1048576: true; the input reads as it did. -/
def fnExactFirstTellingUptoRow : OpenClaim := { program := "ytnllllpdjfbedaa", sum := "98fe6aaf9cbdb5408d646b05d887abeeceebdee0c2fd2a8bd7bd8641f47da1ee", func := "loop.example/g01142/laws.FnExactFirstTelling", spec := "fnExactFirstTelling", apart := false, narrowed := true }
def FnExactFirstTellingUptoSaid : Prop := fnExactFirstTellingUptoRow.holds Try.pinned (OpenSpec.upto fnExactFirstTellingSpec)

end Rows
end Go.Proofs.Ytnllllpdjfbedaa
