/-
  No cell of these rows narrows 'for every input' (looked for: loops, veiled, ifaces, maps, wideKeys, modest, calm, conditions, laid).
  DERIVED. THE GIVEN ROWS OF THIS SEAT. 12 by the template 'for every input the law returns true; each argument reads behind the call as it read before'; 0 by the template 'total and deterministic' (their statements: YtmhdjimdhcephabTotals.lean).
  GIVEN WITH THE SEED: the statements are not yours to turn. If you find one false, say at which input.
  Laid BY PROGRAM, IN A SANDBOX (cutbox-rows.mjs): the forced cells as the released guide's own fill.sh prints them over the translation d436bd491d35e669… (all of the seat's roots in one cut). By AI agents, Wed Nov 11 2026. No macro, syntax, notation, axiom, sorry.
-/
import Derived.Test.YtmhdjimdhcephabChecked
import GoSem.Claim
import GoSem.ClaimJoined
import GoSem.ClaimMapViews
import Derived.JoinedTies
import Derived.KernelRfl
namespace Go.Proofs.Ytmhdjimdhcephab
/- THE CELL 'sum', in the pinned program and in every row, IS THE sha256 OF THE DUMP (.gsa) THAT YtmhdjimdhcephabProg.lean LOADS. Nothing in Lean hashes anything: it is a label: what it is worth is what the hold of that sum in a sandbox is worth. -/
noncomputable def Try.pinned : Pinned := { name := "ytmhdjimdhcephab", sum := "d436bd491d35e6693cac9ba5b6322eb1ea4b35ef099b4321206c15667a0541bd", checked := Try.checked }
namespace Rows
def none {H : Type} : Left H := { results := [], args := [] }

/-- 'laws.FnExactQuietChance': WHATEVER THE INPUT: true; the input reads as it did. -/
def fnExactQuietChanceSpec : ChangeSpec := { name := "fnExactQuietChance", fn := fun _ => fun
  | [d1, d2] => { results := [.lit (.bool true)], args := [d1, d2] }
  | _ => none }
def fnExactQuietChanceRow : OpenClaim := { program := "ytmhdjimdhcephab", sum := "d436bd491d35e6693cac9ba5b6322eb1ea4b35ef099b4321206c15667a0541bd", func := "loop.example/g01142/laws.FnExactQuietChance", spec := "fnExactQuietChance", inPlace := ["math/bits.Sub64", "math/bits.Add64"], named := ["math/bits.divideError", "math/bits.overflowError"], apart := false }
def FnExactQuietChanceSaid : Prop := fnExactQuietChanceRow.holds Try.pinned (OpenSpec.ofChange fnExactQuietChanceSpec)

/-- ITS FALSE NEIGHBOUR: 'it returns false'. Refute it at one input. -/
def fnExactQuietChanceWrong : ChangeSpec := { name := "fnExactQuietChance", fn := fun _ => fun
  | [d1, d2] => { results := [.lit (.bool false)], args := [d1, d2] }
  | _ => none }
def FnExactQuietChanceWrongFalsely : Prop := fnExactQuietChanceRow.holds Try.pinned (OpenSpec.ofChange fnExactQuietChanceWrong)

/-- 'laws.FnExactSuccessChance': WHATEVER THE INPUT: true; the input reads as it did. -/
def fnExactSuccessChanceSpec : ChangeSpec := { name := "fnExactSuccessChance", fn := fun _ => fun
  | [d1, d2] => { results := [.lit (.bool true)], args := [d1, d2] }
  | _ => none }
def fnExactSuccessChanceRow : OpenClaim := { program := "ytmhdjimdhcephab", sum := "d436bd491d35e6693cac9ba5b6322eb1ea4b35ef099b4321206c15667a0541bd", func := "loop.example/g01142/laws.FnExactSuccessChance", spec := "fnExactSuccessChance", inPlace := ["math/bits.Sub64", "math/bits.Add64"], named := ["math/bits.divideError", "math/bits.overflowError"], apart := false }
def FnExactSuccessChanceSaid : Prop := fnExactSuccessChanceRow.holds Try.pinned (OpenSpec.ofChange fnExactSuccessChanceSpec)

/-- ITS FALSE NEIGHBOUR: 'it returns false'. Refute it at one input. -/
def fnExactSuccessChanceWrong : ChangeSpec := { name := "fnExactSuccessChance", fn := fun _ => fun
  | [d1, d2] => { results := [.lit (.bool false)], args := [d1, d2] }
  | _ => none }
def FnExactSuccessChanceWrongFalsely : Prop := fnExactSuccessChanceRow.holds Try.pinned (OpenSpec.ofChange fnExactSuccessChanceWrong)

/-- 'laws.FnExactAddFractions': WHATEVER THE INPUT: true; the input reads as it did. -/
def fnExactAddFractionsSpec : ChangeSpec := { name := "fnExactAddFractions", fn := fun _ => fun
  | [d1, d2] => { results := [.lit (.bool true)], args := [d1, d2] }
  | _ => none }
def fnExactAddFractionsRow : OpenClaim := { program := "ytmhdjimdhcephab", sum := "d436bd491d35e6693cac9ba5b6322eb1ea4b35ef099b4321206c15667a0541bd", func := "loop.example/g01142/laws.FnExactAddFractions", spec := "fnExactAddFractions", inPlace := ["math/bits.Sub64", "math/bits.Add64"], named := ["math/bits.divideError", "math/bits.overflowError"], apart := false }
def FnExactAddFractionsSaid : Prop := fnExactAddFractionsRow.holds Try.pinned (OpenSpec.ofChange fnExactAddFractionsSpec)

/-- ITS FALSE NEIGHBOUR: 'it returns false'. Refute it at one input. -/
def fnExactAddFractionsWrong : ChangeSpec := { name := "fnExactAddFractions", fn := fun _ => fun
  | [d1, d2] => { results := [.lit (.bool false)], args := [d1, d2] }
  | _ => none }
def FnExactAddFractionsWrongFalsely : Prop := fnExactAddFractionsRow.holds Try.pinned (OpenSpec.ofChange fnExactAddFractionsWrong)

/-- 'laws.FnExactSubFractions': WHATEVER THE INPUT: true; the input reads as it did. -/
def fnExactSubFractionsSpec : ChangeSpec := { name := "fnExactSubFractions", fn := fun _ => fun
  | [d1, d2] => { results := [.lit (.bool true)], args := [d1, d2] }
  | _ => none }
def fnExactSubFractionsRow : OpenClaim := { program := "ytmhdjimdhcephab", sum := "d436bd491d35e6693cac9ba5b6322eb1ea4b35ef099b4321206c15667a0541bd", func := "loop.example/g01142/laws.FnExactSubFractions", spec := "fnExactSubFractions", inPlace := ["math/bits.Sub64", "math/bits.Add64"], named := ["math/bits.divideError", "math/bits.overflowError"], apart := false }
def FnExactSubFractionsSaid : Prop := fnExactSubFractionsRow.holds Try.pinned (OpenSpec.ofChange fnExactSubFractionsSpec)

/-- ITS FALSE NEIGHBOUR: 'it returns false'. Refute it at one input. -/
def fnExactSubFractionsWrong : ChangeSpec := { name := "fnExactSubFractions", fn := fun _ => fun
  | [d1, d2] => { results := [.lit (.bool false)], args := [d1, d2] }
  | _ => none }
def FnExactSubFractionsWrongFalsely : Prop := fnExactSubFractionsRow.holds Try.pinned (OpenSpec.ofChange fnExactSubFractionsWrong)

/-- 'laws.FnExactSumFractions': WHATEVER THE INPUT: true; the input reads as it did. -/
def fnExactSumFractionsSpec : ChangeSpec := { name := "fnExactSumFractions", fn := fun _ => fun
  | [d] => { results := [.lit (.bool true)], args := [d] }
  | _ => none }
def fnExactSumFractionsRow : OpenClaim := { program := "ytmhdjimdhcephab", sum := "d436bd491d35e6693cac9ba5b6322eb1ea4b35ef099b4321206c15667a0541bd", func := "loop.example/g01142/laws.FnExactSumFractions", spec := "fnExactSumFractions", inPlace := ["math/bits.Sub64", "math/bits.Add64"], named := ["math/bits.divideError", "math/bits.overflowError"], apart := false }
def FnExactSumFractionsSaid : Prop := fnExactSumFractionsRow.holds Try.pinned (OpenSpec.ofChange fnExactSumFractionsSpec)

/-- ITS FALSE NEIGHBOUR: 'it returns false'. Refute it at one input. -/
def fnExactSumFractionsWrong : ChangeSpec := { name := "fnExactSumFractions", fn := fun _ => fun
  | [d] => { results := [.lit (.bool false)], args := [d] }
  | _ => none }
def FnExactSumFractionsWrongFalsely : Prop := fnExactSumFractionsRow.holds Try.pinned (OpenSpec.ofChange fnExactSumFractionsWrong)

/-- 'laws.FnExactRunLengths': WHATEVER THE INPUT: true; the input reads as it did. -/
def fnExactRunLengthsSpec : ChangeSpec := { name := "fnExactRunLengths", fn := fun _ => fun
  | [d] => { results := [.lit (.bool true)], args := [d] }
  | _ => none }
def fnExactRunLengthsRow : OpenClaim := { program := "ytmhdjimdhcephab", sum := "d436bd491d35e6693cac9ba5b6322eb1ea4b35ef099b4321206c15667a0541bd", func := "loop.example/g01142/laws.FnExactRunLengths", spec := "fnExactRunLengths", apart := false }
def FnExactRunLengthsSaid : Prop := fnExactRunLengthsRow.holds Try.pinned (OpenSpec.ofChange fnExactRunLengthsSpec)

/-- ITS FALSE NEIGHBOUR: 'it returns false'. Refute it at one input. -/
def fnExactRunLengthsWrong : ChangeSpec := { name := "fnExactRunLengths", fn := fun _ => fun
  | [d] => { results := [.lit (.bool false)], args := [d] }
  | _ => none }
def FnExactRunLengthsWrongFalsely : Prop := fnExactRunLengthsRow.holds Try.pinned (OpenSpec.ofChange fnExactRunLengthsWrong)

/-- 'laws.FnExactFirstAloneChance': WHATEVER THE INPUT: true; the input reads as it did. -/
def fnExactFirstAloneChanceSpec : ChangeSpec := { name := "fnExactFirstAloneChance", fn := fun _ => fun
  | [d1, d2] => { results := [.lit (.bool true)], args := [d1, d2] }
  | _ => none }
def fnExactFirstAloneChanceRow : OpenClaim := { program := "ytmhdjimdhcephab", sum := "d436bd491d35e6693cac9ba5b6322eb1ea4b35ef099b4321206c15667a0541bd", func := "loop.example/g01142/laws.FnExactFirstAloneChance", spec := "fnExactFirstAloneChance", apart := false }
def FnExactFirstAloneChanceSaid : Prop := fnExactFirstAloneChanceRow.holds Try.pinned (OpenSpec.ofChange fnExactFirstAloneChanceSpec)

/-- ITS FALSE NEIGHBOUR: 'it returns false'. Refute it at one input. -/
def fnExactFirstAloneChanceWrong : ChangeSpec := { name := "fnExactFirstAloneChance", fn := fun _ => fun
  | [d1, d2] => { results := [.lit (.bool false)], args := [d1, d2] }
  | _ => none }
def FnExactFirstAloneChanceWrongFalsely : Prop := fnExactFirstAloneChanceRow.holds Try.pinned (OpenSpec.ofChange fnExactFirstAloneChanceWrong)

/-- 'laws.FnChances': WHATEVER THE INPUT: true; the input reads as it did. -/
def fnChancesSpec : ChangeSpec := { name := "fnChances", fn := fun _ => fun
  | [d1, d2] => { results := [.lit (.bool true)], args := [d1, d2] }
  | _ => none }
def fnChancesRow : OpenClaim := { program := "ytmhdjimdhcephab", sum := "d436bd491d35e6693cac9ba5b6322eb1ea4b35ef099b4321206c15667a0541bd", func := "loop.example/g01142/laws.FnChances", spec := "fnChances", inPlace := ["math/bits.Sub64", "math/bits.Add64"], named := ["math/bits.divideError", "math/bits.overflowError"], apart := false }
def FnChancesSaid : Prop := fnChancesRow.holds Try.pinned (OpenSpec.ofChange fnChancesSpec)

/-- ITS FALSE NEIGHBOUR: 'it returns false'. Refute it at one input. -/
def fnChancesWrong : ChangeSpec := { name := "fnChances", fn := fun _ => fun
  | [d1, d2] => { results := [.lit (.bool false)], args := [d1, d2] }
  | _ => none }
def FnChancesWrongFalsely : Prop := fnChancesRow.holds Try.pinned (OpenSpec.ofChange fnChancesWrong)

/-- 'laws.FnExactSplitMean': WHATEVER THE INPUT: true; the input reads as it did. -/
def fnExactSplitMeanSpec : ChangeSpec := { name := "fnExactSplitMean", fn := fun _ => fun
  | [d] => { results := [.lit (.bool true)], args := [d] }
  | _ => none }
def fnExactSplitMeanRow : OpenClaim := { program := "ytmhdjimdhcephab", sum := "d436bd491d35e6693cac9ba5b6322eb1ea4b35ef099b4321206c15667a0541bd", func := "loop.example/g01142/laws.FnExactSplitMean", spec := "fnExactSplitMean", inPlace := ["math/bits.Sub64", "math/bits.Add64"], recurses := true, named := ["math/bits.divideError", "math/bits.overflowError"], apart := false }
def FnExactSplitMeanSaid : Prop := fnExactSplitMeanRow.holds Try.pinned (OpenSpec.ofChange fnExactSplitMeanSpec)

/-- ITS FALSE NEIGHBOUR: 'it returns false'. Refute it at one input. -/
def fnExactSplitMeanWrong : ChangeSpec := { name := "fnExactSplitMean", fn := fun _ => fun
  | [d] => { results := [.lit (.bool false)], args := [d] }
  | _ => none }
def FnExactSplitMeanWrongFalsely : Prop := fnExactSplitMeanRow.holds Try.pinned (OpenSpec.ofChange fnExactSplitMeanWrong)

/-- 'laws.FnExactBackoffRun': WHATEVER THE INPUT: true; the input reads as it did. -/
def fnExactBackoffRunSpec : ChangeSpec := { name := "fnExactBackoffRun", fn := fun _ => fun
  | [d] => { results := [.lit (.bool true)], args := [d] }
  | _ => none }
def fnExactBackoffRunRow : OpenClaim := { program := "ytmhdjimdhcephab", sum := "d436bd491d35e6693cac9ba5b6322eb1ea4b35ef099b4321206c15667a0541bd", func := "loop.example/g01142/laws.FnExactBackoffRun", spec := "fnExactBackoffRun", unfollowed := true, recurses := true, apart := false }
def FnExactBackoffRunSaid : Prop := fnExactBackoffRunRow.holds Try.pinned (OpenSpec.ofChange fnExactBackoffRunSpec)

/-- ITS FALSE NEIGHBOUR: 'it returns false'. Refute it at one input. -/
def fnExactBackoffRunWrong : ChangeSpec := { name := "fnExactBackoffRun", fn := fun _ => fun
  | [d] => { results := [.lit (.bool false)], args := [d] }
  | _ => none }
def FnExactBackoffRunWrongFalsely : Prop := fnExactBackoffRunRow.holds Try.pinned (OpenSpec.ofChange fnExactBackoffRunWrong)

/-- 'laws.FnExactSplitRun': WHATEVER THE INPUT: true; the input reads as it did. -/
def fnExactSplitRunSpec : ChangeSpec := { name := "fnExactSplitRun", fn := fun _ => fun
  | [d] => { results := [.lit (.bool true)], args := [d] }
  | _ => none }
def fnExactSplitRunRow : OpenClaim := { program := "ytmhdjimdhcephab", sum := "d436bd491d35e6693cac9ba5b6322eb1ea4b35ef099b4321206c15667a0541bd", func := "loop.example/g01142/laws.FnExactSplitRun", spec := "fnExactSplitRun", unfollowed := true, recurses := true, apart := false }
def FnExactSplitRunSaid : Prop := fnExactSplitRunRow.holds Try.pinned (OpenSpec.ofChange fnExactSplitRunSpec)

/-- ITS FALSE NEIGHBOUR: 'it returns false'. Refute it at one input. -/
def fnExactSplitRunWrong : ChangeSpec := { name := "fnExactSplitRun", fn := fun _ => fun
  | [d] => { results := [.lit (.bool false)], args := [d] }
  | _ => none }
def FnExactSplitRunWrongFalsely : Prop := fnExactSplitRunRow.holds Try.pinned (OpenSpec.ofChange fnExactSplitRunWrong)

/-- 'laws.FnBackoff': WHATEVER THE INPUT: true; the input reads as it did. -/
def fnBackoffSpec : ChangeSpec := { name := "fnBackoff", fn := fun _ => fun
  | [d1, d2] => { results := [.lit (.bool true)], args := [d1, d2] }
  | _ => none }
def fnBackoffRow : OpenClaim := { program := "ytmhdjimdhcephab", sum := "d436bd491d35e6693cac9ba5b6322eb1ea4b35ef099b4321206c15667a0541bd", func := "loop.example/g01142/laws.FnBackoff", spec := "fnBackoff", unfollowed := true, recurses := true, apart := false }
def FnBackoffSaid : Prop := fnBackoffRow.holds Try.pinned (OpenSpec.ofChange fnBackoffSpec)

/-- ITS FALSE NEIGHBOUR: 'it returns false'. Refute it at one input. -/
def fnBackoffWrong : ChangeSpec := { name := "fnBackoff", fn := fun _ => fun
  | [d1, d2] => { results := [.lit (.bool false)], args := [d1, d2] }
  | _ => none }
def FnBackoffWrongFalsely : Prop := fnBackoffRow.holds Try.pinned (OpenSpec.ofChange fnBackoffWrong)

/- THE SECOND FORM. 'bulk': how many values and letters a reading holds, each counted each time it is reached (what is shared counts as often as it is met; a slice's spare places count too). A statement '..UptoSaid' is the law's where the arguments, and the package variables that the reading takes, are together of bulk at most 1048576: NARROWER than '..Said'. Prove '..Said' where nothing that the law and all that it calls make is longer than what came in: it says more and counts as full. Else prove '..UptoSaid'. A law counts once. -/
mutual
def uptoBulk {H : Type} : DataW H → Nat
  | .lit (.string bytes) => bytes.length + 1
  | .lit _ => 1
  | .nil => 1
  | .ptr d => uptoBulk d + 1
  | .slice elems spare => uptoBulkAll elems + uptoBulkAll spare + 1
  | .agg parts => uptoBulkAll parts + 1
  | .iface _ d => uptoBulk d + 1
  | .map entries => uptoBulkEntries entries + 1
  | .held _ => 1
def uptoBulkAll {H : Type} : List (DataW H) → Nat
  | [] => 0
  | d :: r => uptoBulk d + uptoBulkAll r
def uptoBulkEntries {H : Type} : List (Lit × DataW H) → Nat
  | [] => 0
  | x :: r => uptoBulkEntry x + uptoBulkEntries r
def uptoBulkEntry {H : Type} : Lit × DataW H → Nat
  | (.string bytes, d) => bytes.length + uptoBulk d + 1
  | (_, d) => uptoBulk d + 1
 end
def uptoSmall : (H : Type) → List (DataW H) → Bool := fun _ ds => decide (uptoBulkAll ds ≤ 1048576)
def OpenSpec.upto (s : _root_.Go.ChangeSpec) : _root_.Go.OpenSpec := { _root_.Go.OpenSpec.ofChange s with cond := some uptoSmall }

/-- 'laws.FnExactQuietChance', WHERE WHAT IT READS IS OF BULK AT MOST 1048576: true; the input reads as it did. -/
def fnExactQuietChanceUptoRow : OpenClaim := { program := "ytmhdjimdhcephab", sum := "d436bd491d35e6693cac9ba5b6322eb1ea4b35ef099b4321206c15667a0541bd", func := "loop.example/g01142/laws.FnExactQuietChance", spec := "fnExactQuietChance", inPlace := ["math/bits.Sub64", "math/bits.Add64"], named := ["math/bits.divideError", "math/bits.overflowError"], apart := false, narrowed := true }
def FnExactQuietChanceUptoSaid : Prop := fnExactQuietChanceUptoRow.holds Try.pinned (OpenSpec.upto fnExactQuietChanceSpec)

/-- 'laws.FnExactSuccessChance', WHERE WHAT IT READS IS OF BULK AT MOST 1048576: true; the input reads as it did. -/
def fnExactSuccessChanceUptoRow : OpenClaim := { program := "ytmhdjimdhcephab", sum := "d436bd491d35e6693cac9ba5b6322eb1ea4b35ef099b4321206c15667a0541bd", func := "loop.example/g01142/laws.FnExactSuccessChance", spec := "fnExactSuccessChance", inPlace := ["math/bits.Sub64", "math/bits.Add64"], named := ["math/bits.divideError", "math/bits.overflowError"], apart := false, narrowed := true }
def FnExactSuccessChanceUptoSaid : Prop := fnExactSuccessChanceUptoRow.holds Try.pinned (OpenSpec.upto fnExactSuccessChanceSpec)

/-- 'laws.FnExactAddFractions', WHERE WHAT IT READS IS OF BULK AT MOST 1048576: true; the input reads as it did. -/
def fnExactAddFractionsUptoRow : OpenClaim := { program := "ytmhdjimdhcephab", sum := "d436bd491d35e6693cac9ba5b6322eb1ea4b35ef099b4321206c15667a0541bd", func := "loop.example/g01142/laws.FnExactAddFractions", spec := "fnExactAddFractions", inPlace := ["math/bits.Sub64", "math/bits.Add64"], named := ["math/bits.divideError", "math/bits.overflowError"], apart := false, narrowed := true }
def FnExactAddFractionsUptoSaid : Prop := fnExactAddFractionsUptoRow.holds Try.pinned (OpenSpec.upto fnExactAddFractionsSpec)

/-- 'laws.FnExactSubFractions', WHERE WHAT IT READS IS OF BULK AT MOST 1048576: true; the input reads as it did. -/
def fnExactSubFractionsUptoRow : OpenClaim := { program := "ytmhdjimdhcephab", sum := "d436bd491d35e6693cac9ba5b6322eb1ea4b35ef099b4321206c15667a0541bd", func := "loop.example/g01142/laws.FnExactSubFractions", spec := "fnExactSubFractions", inPlace := ["math/bits.Sub64", "math/bits.Add64"], named := ["math/bits.divideError", "math/bits.overflowError"], apart := false, narrowed := true }
def FnExactSubFractionsUptoSaid : Prop := fnExactSubFractionsUptoRow.holds Try.pinned (OpenSpec.upto fnExactSubFractionsSpec)

/-- 'laws.FnExactSumFractions', WHERE WHAT IT READS IS OF BULK AT MOST 1048576: true; the input reads as it did. -/
def fnExactSumFractionsUptoRow : OpenClaim := { program := "ytmhdjimdhcephab", sum := "d436bd491d35e6693cac9ba5b6322eb1ea4b35ef099b4321206c15667a0541bd", func := "loop.example/g01142/laws.FnExactSumFractions", spec := "fnExactSumFractions", inPlace := ["math/bits.Sub64", "math/bits.Add64"], named := ["math/bits.divideError", "math/bits.overflowError"], apart := false, narrowed := true }
def FnExactSumFractionsUptoSaid : Prop := fnExactSumFractionsUptoRow.holds Try.pinned (OpenSpec.upto fnExactSumFractionsSpec)

/-- 'laws.FnExactRunLengths', WHERE WHAT IT READS IS OF BULK AT MOST 1048576: true; the input reads as it did. -/
def fnExactRunLengthsUptoRow : OpenClaim := { program := "ytmhdjimdhcephab", sum := "d436bd491d35e6693cac9ba5b6322eb1ea4b35ef099b4321206c15667a0541bd", func := "loop.example/g01142/laws.FnExactRunLengths", spec := "fnExactRunLengths", apart := false, narrowed := true }
def FnExactRunLengthsUptoSaid : Prop := fnExactRunLengthsUptoRow.holds Try.pinned (OpenSpec.upto fnExactRunLengthsSpec)

/-- 'laws.FnExactFirstAloneChance', WHERE WHAT IT READS IS OF BULK AT MOST 1048576: true; the input reads as it did. -/
def fnExactFirstAloneChanceUptoRow : OpenClaim := { program := "ytmhdjimdhcephab", sum := "d436bd491d35e6693cac9ba5b6322eb1ea4b35ef099b4321206c15667a0541bd", func := "loop.example/g01142/laws.FnExactFirstAloneChance", spec := "fnExactFirstAloneChance", apart := false, narrowed := true }
def FnExactFirstAloneChanceUptoSaid : Prop := fnExactFirstAloneChanceUptoRow.holds Try.pinned (OpenSpec.upto fnExactFirstAloneChanceSpec)

/-- 'laws.FnChances', WHERE WHAT IT READS IS OF BULK AT MOST 1048576: true; the input reads as it did. -/
def fnChancesUptoRow : OpenClaim := { program := "ytmhdjimdhcephab", sum := "d436bd491d35e6693cac9ba5b6322eb1ea4b35ef099b4321206c15667a0541bd", func := "loop.example/g01142/laws.FnChances", spec := "fnChances", inPlace := ["math/bits.Sub64", "math/bits.Add64"], named := ["math/bits.divideError", "math/bits.overflowError"], apart := false, narrowed := true }
def FnChancesUptoSaid : Prop := fnChancesUptoRow.holds Try.pinned (OpenSpec.upto fnChancesSpec)

/-- 'laws.FnExactSplitMean', WHERE WHAT IT READS IS OF BULK AT MOST 1048576: true; the input reads as it did. -/
def fnExactSplitMeanUptoRow : OpenClaim := { program := "ytmhdjimdhcephab", sum := "d436bd491d35e6693cac9ba5b6322eb1ea4b35ef099b4321206c15667a0541bd", func := "loop.example/g01142/laws.FnExactSplitMean", spec := "fnExactSplitMean", inPlace := ["math/bits.Sub64", "math/bits.Add64"], recurses := true, named := ["math/bits.divideError", "math/bits.overflowError"], apart := false, narrowed := true }
def FnExactSplitMeanUptoSaid : Prop := fnExactSplitMeanUptoRow.holds Try.pinned (OpenSpec.upto fnExactSplitMeanSpec)

/-- 'laws.FnExactBackoffRun', WHERE WHAT IT READS IS OF BULK AT MOST 1048576: true; the input reads as it did. -/
def fnExactBackoffRunUptoRow : OpenClaim := { program := "ytmhdjimdhcephab", sum := "d436bd491d35e6693cac9ba5b6322eb1ea4b35ef099b4321206c15667a0541bd", func := "loop.example/g01142/laws.FnExactBackoffRun", spec := "fnExactBackoffRun", unfollowed := true, recurses := true, apart := false, narrowed := true }
def FnExactBackoffRunUptoSaid : Prop := fnExactBackoffRunUptoRow.holds Try.pinned (OpenSpec.upto fnExactBackoffRunSpec)

/-- 'laws.FnExactSplitRun', WHERE WHAT IT READS IS OF BULK AT MOST 1048576: true; the input reads as it did. -/
def fnExactSplitRunUptoRow : OpenClaim := { program := "ytmhdjimdhcephab", sum := "d436bd491d35e6693cac9ba5b6322eb1ea4b35ef099b4321206c15667a0541bd", func := "loop.example/g01142/laws.FnExactSplitRun", spec := "fnExactSplitRun", unfollowed := true, recurses := true, apart := false, narrowed := true }
def FnExactSplitRunUptoSaid : Prop := fnExactSplitRunUptoRow.holds Try.pinned (OpenSpec.upto fnExactSplitRunSpec)

/-- 'laws.FnBackoff', WHERE WHAT IT READS IS OF BULK AT MOST 1048576: true; the input reads as it did. -/
def fnBackoffUptoRow : OpenClaim := { program := "ytmhdjimdhcephab", sum := "d436bd491d35e6693cac9ba5b6322eb1ea4b35ef099b4321206c15667a0541bd", func := "loop.example/g01142/laws.FnBackoff", spec := "fnBackoff", unfollowed := true, recurses := true, apart := false, narrowed := true }
def FnBackoffUptoSaid : Prop := fnBackoffUptoRow.holds Try.pinned (OpenSpec.upto fnBackoffSpec)

end Rows
end Go.Proofs.Ytmhdjimdhcephab
