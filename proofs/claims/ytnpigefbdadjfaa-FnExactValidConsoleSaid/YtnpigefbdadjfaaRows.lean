/-
  No cell of these rows narrows 'for every input' (looked for: loops, veiled, ifaces, maps, wideKeys, modest, calm, conditions, laid).
  DERIVED. THE GIVEN ROWS OF THIS SEAT. 4 by the template 'for every input the law returns true; each argument reads behind the call as it read before'; 0 by the template 'total and deterministic' (their statements: YtnpigefbdadjfaaTotals.lean).
  GIVEN WITH THE SEED: the statements are not yours to turn. If you find one false, say at which input.
  Laid BY PROGRAM, IN A SANDBOX (cutbox-rows.mjs): the forced cells as the released guide's own fill.sh prints them over the translation f5751ec71554fc49… (all of the seat's roots in one cut). By AI agents, Wed Nov 11 2026. No macro, syntax, notation, axiom, sorry.
-/
import Derived.Test.YtnpigefbdadjfaaChecked
import GoSem.Claim
import GoSem.ClaimJoined
import GoSem.ClaimMapViews
import Derived.JoinedTies
import Derived.KernelRfl
namespace Go.Proofs.Ytnpigefbdadjfaa
/- THE CELL 'sum', in the pinned program and in every row, IS THE sha256 OF THE DUMP (.gsa) THAT YtnpigefbdadjfaaProg.lean LOADS. Nothing in Lean hashes anything: it is a label: what it is worth is what the hold of that sum in a sandbox is worth. -/
noncomputable def Try.pinned : Pinned := { name := "ytnpigefbdadjfaa", sum := "f5751ec71554fc49b2a7c8b3c05c2710f678a84fcbb776eecbf5aa5f6953b6bc", checked := Try.checked }
namespace Rows
def none {H : Type} : Left H := { results := [], args := [] }

/-- 'laws.FnBits': WHATEVER THE INPUT: true; the input reads as it did. -/
def fnBitsSpec : ChangeSpec := { name := "fnBits", fn := fun _ => fun
  | [d1, d2] => { results := [.lit (.bool true)], args := [d1, d2] }
  | _ => none }
def fnBitsRow : OpenClaim := { program := "ytnpigefbdadjfaa", sum := "f5751ec71554fc49b2a7c8b3c05c2710f678a84fcbb776eecbf5aa5f6953b6bc", func := "loop.example/g01142/laws.FnBits", spec := "fnBits", inPlace := ["internal/bytealg.CountString", "internal/bytealg.IndexByteString", "internal/bytealg.IndexString"], named := ["internal/bytealg.MaxLen"], apart := false }
def FnBitsSaid : Prop := fnBitsRow.holds Try.pinned (OpenSpec.ofChange fnBitsSpec)

/-- ITS FALSE NEIGHBOUR: 'it returns false'. Refute it at one input. -/
def fnBitsWrong : ChangeSpec := { name := "fnBits", fn := fun _ => fun
  | [d1, d2] => { results := [.lit (.bool false)], args := [d1, d2] }
  | _ => none }
def FnBitsWrongFalsely : Prop := fnBitsRow.holds Try.pinned (OpenSpec.ofChange fnBitsWrong)

/-- 'laws.FnScrambled': WHATEVER THE INPUT: true; the input reads as it did. -/
def fnScrambledSpec : ChangeSpec := { name := "fnScrambled", fn := fun _ => fun
  | [d1, d2] => { results := [.lit (.bool true)], args := [d1, d2] }
  | _ => none }
def fnScrambledRow : OpenClaim := { program := "ytnpigefbdadjfaa", sum := "f5751ec71554fc49b2a7c8b3c05c2710f678a84fcbb776eecbf5aa5f6953b6bc", func := "loop.example/g01142/laws.FnScrambled", spec := "fnScrambled", inPlace := ["internal/abi.NoEscape"], unfollowed := true, recurses := true, apart := false }
def FnScrambledSaid : Prop := fnScrambledRow.holds Try.pinned (OpenSpec.ofChange fnScrambledSpec)

/-- ITS FALSE NEIGHBOUR: 'it returns false'. Refute it at one input. -/
def fnScrambledWrong : ChangeSpec := { name := "fnScrambled", fn := fun _ => fun
  | [d1, d2] => { results := [.lit (.bool false)], args := [d1, d2] }
  | _ => none }
def FnScrambledWrongFalsely : Prop := fnScrambledRow.holds Try.pinned (OpenSpec.ofChange fnScrambledWrong)

/-- 'laws.FnExactValidConsole': WHATEVER THE INPUT: true; the input reads as it did. -/
def fnExactValidConsoleSpec : ChangeSpec := { name := "fnExactValidConsole", fn := fun _ => fun
  | [d] => { results := [.lit (.bool true)], args := [d] }
  | _ => none }
def fnExactValidConsoleRow : OpenClaim := { program := "ytnpigefbdadjfaa", sum := "f5751ec71554fc49b2a7c8b3c05c2710f678a84fcbb776eecbf5aa5f6953b6bc", func := "loop.example/g01142/laws.FnExactValidConsole", spec := "fnExactValidConsole", unfollowed := true, recurses := true, apart := false }
def FnExactValidConsoleSaid : Prop := fnExactValidConsoleRow.holds Try.pinned (OpenSpec.ofChange fnExactValidConsoleSpec)

/-- ITS FALSE NEIGHBOUR: 'it returns false'. Refute it at one input. -/
def fnExactValidConsoleWrong : ChangeSpec := { name := "fnExactValidConsole", fn := fun _ => fun
  | [d] => { results := [.lit (.bool false)], args := [d] }
  | _ => none }
def FnExactValidConsoleWrongFalsely : Prop := fnExactValidConsoleRow.holds Try.pinned (OpenSpec.ofChange fnExactValidConsoleWrong)

/-- 'laws.FnExactSumFractions': WHATEVER THE INPUT: true; the input reads as it did. -/
def fnExactSumFractionsSpec : ChangeSpec := { name := "fnExactSumFractions", fn := fun _ => fun
  | [d] => { results := [.lit (.bool true)], args := [d] }
  | _ => none }
def fnExactSumFractionsRow : OpenClaim := { program := "ytnpigefbdadjfaa", sum := "f5751ec71554fc49b2a7c8b3c05c2710f678a84fcbb776eecbf5aa5f6953b6bc", func := "loop.example/g01142/laws.FnExactSumFractions", spec := "fnExactSumFractions", inPlace := ["math/bits.Sub64", "math/bits.Add64"], named := ["math/bits.divideError", "math/bits.overflowError"], apart := false }
def FnExactSumFractionsSaid : Prop := fnExactSumFractionsRow.holds Try.pinned (OpenSpec.ofChange fnExactSumFractionsSpec)

/-- ITS FALSE NEIGHBOUR: 'it returns false'. Refute it at one input. -/
def fnExactSumFractionsWrong : ChangeSpec := { name := "fnExactSumFractions", fn := fun _ => fun
  | [d] => { results := [.lit (.bool false)], args := [d] }
  | _ => none }
def FnExactSumFractionsWrongFalsely : Prop := fnExactSumFractionsRow.holds Try.pinned (OpenSpec.ofChange fnExactSumFractionsWrong)

/- THE SECOND FORM. 'bulk': how many values and letters a reading holds, each counted each time it is reached (what is shared counts as often as it is met; a slice's spare places count too). A statement '..UptoSaid' is the law's where the arguments, and the package variables that the reading takes, are together of bulk at most 1048576: NARROWER than '..Said'. Prove '..Said' where nothing that the law and all that it calls make is longer than what came in: it says more and counts as full. Else prove '..UptoSaid'. A law counts once. -/
mutual
def uptoBulk {H : Type} : DataW H → Nat
  | .lit (.string bytes) => bytes.length + 1
  | .lit _ => 1
  | .nil => 1
  | .ptr d => uptoBulk d + 1
  | .slice elems spare => uptoBulkAll elems + uptoBulkAll spare + 1
  | .agg parts => uptoBulkAll parts + 1
  | .iface _ d => uptoBulk d + 1
  | .map entries => uptoBulkEntries entries + 1
  | .held _ => 1
def uptoBulkAll {H : Type} : List (DataW H) → Nat
  | [] => 0
  | d :: r => uptoBulk d + uptoBulkAll r
def uptoBulkEntries {H : Type} : List (Lit × DataW H) → Nat
  | [] => 0
  | x :: r => uptoBulkEntry x + uptoBulkEntries r
def uptoBulkEntry {H : Type} : Lit × DataW H → Nat
  | (.string bytes, d) => bytes.length + uptoBulk d + 1
  | (_, d) => uptoBulk d + 1
 end
def uptoSmall : (H : Type) → List (DataW H) → Bool := fun _ ds => decide (uptoBulkAll ds ≤ 1048576)
def OpenSpec.upto (s : _root_.Go.ChangeSpec) : _root_.Go.OpenSpec := { _root_.Go.OpenSpec.ofChange s with cond := some uptoSmall }

/-- 'laws.FnBits', WHERE WHAT IT READS IS OF BULK AT MOST 1048576: true; the input reads as it did. -/
def fnBitsUptoRow : OpenClaim := { program := "ytnpigefbdadjfaa", sum := "f5751ec71554fc49b2a7c8b3c05c2710f678a84fcbb776eecbf5aa5f6953b6bc", func := "loop.example/g01142/laws.FnBits", spec := "fnBits", inPlace := ["internal/bytealg.CountString", "internal/bytealg.IndexByteString", "internal/bytealg.IndexString"], named := ["internal/bytealg.MaxLen"], apart := false, narrowed := true }
def FnBitsUptoSaid : Prop := fnBitsUptoRow.holds Try.pinned (OpenSpec.upto fnBitsSpec)

/-- 'laws.FnScrambled', WHERE WHAT IT READS IS OF BULK AT MOST 1048576: true; the input reads as it did. -/
def fnScrambledUptoRow : OpenClaim := { program := "ytnpigefbdadjfaa", sum := "f5751ec71554fc49b2a7c8b3c05c2710f678a84fcbb776eecbf5aa5f6953b6bc", func := "loop.example/g01142/laws.FnScrambled", spec := "fnScrambled", inPlace := ["internal/abi.NoEscape"], unfollowed := true, recurses := true, apart := false, narrowed := true }
def FnScrambledUptoSaid : Prop := fnScrambledUptoRow.holds Try.pinned (OpenSpec.upto fnScrambledSpec)

/-- 'laws.FnExactValidConsole', WHERE WHAT IT READS IS OF BULK AT MOST 1048576: true; the input reads as it did. -/
def fnExactValidConsoleUptoRow : OpenClaim := { program := "ytnpigefbdadjfaa", sum := "f5751ec71554fc49b2a7c8b3c05c2710f678a84fcbb776eecbf5aa5f6953b6bc", func := "loop.example/g01142/laws.FnExactValidConsole", spec := "fnExactValidConsole", unfollowed := true, recurses := true, apart := false, narrowed := true }
def FnExactValidConsoleUptoSaid : Prop := fnExactValidConsoleUptoRow.holds Try.pinned (OpenSpec.upto fnExactValidConsoleSpec)

/-- 'laws.FnExactSumFractions', WHERE WHAT IT READS IS OF BULK AT MOST 1048576: true; the input reads as it did. -/
def fnExactSumFractionsUptoRow : OpenClaim := { program := "ytnpigefbdadjfaa", sum := "f5751ec71554fc49b2a7c8b3c05c2710f678a84fcbb776eecbf5aa5f6953b6bc", func := "loop.example/g01142/laws.FnExactSumFractions", spec := "fnExactSumFractions", inPlace := ["math/bits.Sub64", "math/bits.Add64"], named := ["math/bits.divideError", "math/bits.overflowError"], apart := false, narrowed := true }
def FnExactSumFractionsUptoSaid : Prop := fnExactSumFractionsUptoRow.holds Try.pinned (OpenSpec.upto fnExactSumFractionsSpec)

end Rows
end Go.Proofs.Ytnpigefbdadjfaa
