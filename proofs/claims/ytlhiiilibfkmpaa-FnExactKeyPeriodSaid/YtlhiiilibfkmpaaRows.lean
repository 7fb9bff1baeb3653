/-
  No cell of these rows narrows 'for every input' (looked for: loops, veiled, ifaces, maps, wideKeys, modest, calm, conditions, laid).
  DERIVED. THE GIVEN ROWS OF THIS SEAT. 12 by the template 'for every input the law returns true; each argument reads behind the call as it read before'; 0 by the template 'total and deterministic' (their statements: YtlhiiilibfkmpaaTotals.lean).
  GIVEN WITH THE SEED: the statements are not yours to turn. If you find one false, say at which input.
  Laid BY PROGRAM, IN A SANDBOX (cutbox-rows.mjs): the forced cells as the released guide's own fill.sh prints them over the translation d2e3906a64660248… (all of the seat's roots in one cut). By AI agents, Wed Nov 11 2026. No macro, syntax, notation, axiom, sorry.
-/
import Derived.Test.YtlhiiilibfkmpaaChecked
import GoSem.Claim
import GoSem.ClaimJoined
import GoSem.ClaimMapViews
import Derived.JoinedTies
import Derived.KernelRfl
namespace Go.Proofs.Ytlhiiilibfkmpaa
/- THE CELL 'sum', in the pinned program and in every row, IS THE sha256 OF THE DUMP (.gsa) THAT YtlhiiilibfkmpaaProg.lean LOADS. Nothing in Lean hashes anything: it is a label: what it is worth is what the hold of that sum in a sandbox is worth. -/
noncomputable def Try.pinned : Pinned := { name := "ytlhiiilibfkmpaa", sum := "d2e3906a646602485456adec0f7fa465d1c09f285eabe0f849678dcd342f9371", checked := Try.checked }
namespace Rows
def none {H : Type} : Left H := { results := [], args := [] }

/-- 'laws.FnExactValidScrambler': WHATEVER THE INPUT: true; the input reads as it did. -/
def fnExactValidScramblerSpec : ChangeSpec := { name := "fnExactValidScrambler", fn := fun _ => fun
  | [d] => { results := [.lit (.bool true)], args := [d] }
  | _ => none }
def fnExactValidScramblerRow : OpenClaim := { program := "ytlhiiilibfkmpaa", sum := "d2e3906a646602485456adec0f7fa465d1c09f285eabe0f849678dcd342f9371", func := "loop.example/g01142/laws.FnExactValidScrambler", spec := "fnExactValidScrambler", apart := false }
def FnExactValidScramblerSaid : Prop := fnExactValidScramblerRow.holds Try.pinned (OpenSpec.ofChange fnExactValidScramblerSpec)

/-- ITS FALSE NEIGHBOUR: 'it returns false'. Refute it at one input. -/
def fnExactValidScramblerWrong : ChangeSpec := { name := "fnExactValidScrambler", fn := fun _ => fun
  | [d] => { results := [.lit (.bool false)], args := [d] }
  | _ => none }
def FnExactValidScramblerWrongFalsely : Prop := fnExactValidScramblerRow.holds Try.pinned (OpenSpec.ofChange fnExactValidScramblerWrong)

/-- 'laws.FnExactKeyBits': WHATEVER THE INPUT: true; the input reads as it did. -/
def fnExactKeyBitsSpec : ChangeSpec := { name := "fnExactKeyBits", fn := fun _ => fun
  | [d1, d2] => { results := [.lit (.bool true)], args := [d1, d2] }
  | _ => none }
def fnExactKeyBitsRow : OpenClaim := { program := "ytlhiiilibfkmpaa", sum := "d2e3906a646602485456adec0f7fa465d1c09f285eabe0f849678dcd342f9371", func := "loop.example/g01142/laws.FnExactKeyBits", spec := "fnExactKeyBits", inPlace := ["internal/abi.NoEscape"], unfollowed := true, recurses := true, apart := false }
def FnExactKeyBitsSaid : Prop := fnExactKeyBitsRow.holds Try.pinned (OpenSpec.ofChange fnExactKeyBitsSpec)

/-- ITS FALSE NEIGHBOUR: 'it returns false'. Refute it at one input. -/
def fnExactKeyBitsWrong : ChangeSpec := { name := "fnExactKeyBits", fn := fun _ => fun
  | [d1, d2] => { results := [.lit (.bool false)], args := [d1, d2] }
  | _ => none }
def FnExactKeyBitsWrongFalsely : Prop := fnExactKeyBitsRow.holds Try.pinned (OpenSpec.ofChange fnExactKeyBitsWrong)

/-- 'laws.FnExactAddScramble': WHATEVER THE INPUT: true; the input reads as it did. -/
def fnExactAddScrambleSpec : ChangeSpec := { name := "fnExactAddScramble", fn := fun _ => fun
  | [d1, d2] => { results := [.lit (.bool true)], args := [d1, d2] }
  | _ => none }
def fnExactAddScrambleRow : OpenClaim := { program := "ytlhiiilibfkmpaa", sum := "d2e3906a646602485456adec0f7fa465d1c09f285eabe0f849678dcd342f9371", func := "loop.example/g01142/laws.FnExactAddScramble", spec := "fnExactAddScramble", inPlace := ["internal/abi.NoEscape"], unfollowed := true, recurses := true, apart := false }
def FnExactAddScrambleSaid : Prop := fnExactAddScrambleRow.holds Try.pinned (OpenSpec.ofChange fnExactAddScrambleSpec)

/-- ITS FALSE NEIGHBOUR: 'it returns false'. Refute it at one input. -/
def fnExactAddScrambleWrong : ChangeSpec := { name := "fnExactAddScramble", fn := fun _ => fun
  | [d1, d2] => { results := [.lit (.bool false)], args := [d1, d2] }
  | _ => none }
def FnExactAddScrambleWrongFalsely : Prop := fnExactAddScrambleRow.holds Try.pinned (OpenSpec.ofChange fnExactAddScrambleWrong)

/-- 'laws.FnExactSelfScramble': WHATEVER THE INPUT: true; the input reads as it did. -/
def fnExactSelfScrambleSpec : ChangeSpec := { name := "fnExactSelfScramble", fn := fun _ => fun
  | [d1, d2] => { results := [.lit (.bool true)], args := [d1, d2] }
  | _ => none }
def fnExactSelfScrambleRow : OpenClaim := { program := "ytlhiiilibfkmpaa", sum := "d2e3906a646602485456adec0f7fa465d1c09f285eabe0f849678dcd342f9371", func := "loop.example/g01142/laws.FnExactSelfScramble", spec := "fnExactSelfScramble", inPlace := ["internal/abi.NoEscape"], unfollowed := true, recurses := true, apart := false }
def FnExactSelfScrambleSaid : Prop := fnExactSelfScrambleRow.holds Try.pinned (OpenSpec.ofChange fnExactSelfScrambleSpec)

/-- ITS FALSE NEIGHBOUR: 'it returns false'. Refute it at one input. -/
def fnExactSelfScrambleWrong : ChangeSpec := { name := "fnExactSelfScramble", fn := fun _ => fun
  | [d1, d2] => { results := [.lit (.bool false)], args := [d1, d2] }
  | _ => none }
def FnExactSelfScrambleWrongFalsely : Prop := fnExactSelfScrambleRow.holds Try.pinned (OpenSpec.ofChange fnExactSelfScrambleWrong)

/-- 'laws.FnExactSelfDescramble': WHATEVER THE INPUT: true; the input reads as it did. -/
def fnExactSelfDescrambleSpec : ChangeSpec := { name := "fnExactSelfDescramble", fn := fun _ => fun
  | [d1, d2] => { results := [.lit (.bool true)], args := [d1, d2] }
  | _ => none }
def fnExactSelfDescrambleRow : OpenClaim := { program := "ytlhiiilibfkmpaa", sum := "d2e3906a646602485456adec0f7fa465d1c09f285eabe0f849678dcd342f9371", func := "loop.example/g01142/laws.FnExactSelfDescramble", spec := "fnExactSelfDescramble", inPlace := ["internal/abi.NoEscape"], unfollowed := true, recurses := true, apart := false }
def FnExactSelfDescrambleSaid : Prop := fnExactSelfDescrambleRow.holds Try.pinned (OpenSpec.ofChange fnExactSelfDescrambleSpec)

/-- ITS FALSE NEIGHBOUR: 'it returns false'. Refute it at one input. -/
def fnExactSelfDescrambleWrong : ChangeSpec := { name := "fnExactSelfDescramble", fn := fun _ => fun
  | [d1, d2] => { results := [.lit (.bool false)], args := [d1, d2] }
  | _ => none }
def FnExactSelfDescrambleWrongFalsely : Prop := fnExactSelfDescrambleRow.holds Try.pinned (OpenSpec.ofChange fnExactSelfDescrambleWrong)

/-- 'laws.FnExactSpreadOf': WHATEVER THE INPUT: true; the input reads as it did. -/
def fnExactSpreadOfSpec : ChangeSpec := { name := "fnExactSpreadOf", fn := fun _ => fun
  | [d] => { results := [.lit (.bool true)], args := [d] }
  | _ => none }
def fnExactSpreadOfRow : OpenClaim := { program := "ytlhiiilibfkmpaa", sum := "d2e3906a646602485456adec0f7fa465d1c09f285eabe0f849678dcd342f9371", func := "loop.example/g01142/laws.FnExactSpreadOf", spec := "fnExactSpreadOf", apart := false }
def FnExactSpreadOfSaid : Prop := fnExactSpreadOfRow.holds Try.pinned (OpenSpec.ofChange fnExactSpreadOfSpec)

/-- ITS FALSE NEIGHBOUR: 'it returns false'. Refute it at one input. -/
def fnExactSpreadOfWrong : ChangeSpec := { name := "fnExactSpreadOf", fn := fun _ => fun
  | [d] => { results := [.lit (.bool false)], args := [d] }
  | _ => none }
def FnExactSpreadOfWrongFalsely : Prop := fnExactSpreadOfRow.holds Try.pinned (OpenSpec.ofChange fnExactSpreadOfWrong)

/-- 'laws.FnExactErrorsBehind': WHATEVER THE INPUT: true; the input reads as it did. -/
def fnExactErrorsBehindSpec : ChangeSpec := { name := "fnExactErrorsBehind", fn := fun _ => fun
  | [d1, d2] => { results := [.lit (.bool true)], args := [d1, d2] }
  | _ => none }
def fnExactErrorsBehindRow : OpenClaim := { program := "ytlhiiilibfkmpaa", sum := "d2e3906a646602485456adec0f7fa465d1c09f285eabe0f849678dcd342f9371", func := "loop.example/g01142/laws.FnExactErrorsBehind", spec := "fnExactErrorsBehind", inPlace := ["internal/abi.NoEscape", "internal/bytealg.MakeNoZero"], apart := false }
def FnExactErrorsBehindSaid : Prop := fnExactErrorsBehindRow.holds Try.pinned (OpenSpec.ofChange fnExactErrorsBehindSpec)

/-- ITS FALSE NEIGHBOUR: 'it returns false'. Refute it at one input. -/
def fnExactErrorsBehindWrong : ChangeSpec := { name := "fnExactErrorsBehind", fn := fun _ => fun
  | [d1, d2] => { results := [.lit (.bool false)], args := [d1, d2] }
  | _ => none }
def FnExactErrorsBehindWrongFalsely : Prop := fnExactErrorsBehindRow.holds Try.pinned (OpenSpec.ofChange fnExactErrorsBehindWrong)

/-- 'laws.FnExactLockTime': WHATEVER THE INPUT: true; the input reads as it did. -/
def fnExactLockTimeSpec : ChangeSpec := { name := "fnExactLockTime", fn := fun _ => fun
  | [d] => { results := [.lit (.bool true)], args := [d] }
  | _ => none }
def fnExactLockTimeRow : OpenClaim := { program := "ytlhiiilibfkmpaa", sum := "d2e3906a646602485456adec0f7fa465d1c09f285eabe0f849678dcd342f9371", func := "loop.example/g01142/laws.FnExactLockTime", spec := "fnExactLockTime", apart := false }
def FnExactLockTimeSaid : Prop := fnExactLockTimeRow.holds Try.pinned (OpenSpec.ofChange fnExactLockTimeSpec)

/-- ITS FALSE NEIGHBOUR: 'it returns false'. Refute it at one input. -/
def fnExactLockTimeWrong : ChangeSpec := { name := "fnExactLockTime", fn := fun _ => fun
  | [d] => { results := [.lit (.bool false)], args := [d] }
  | _ => none }
def FnExactLockTimeWrongFalsely : Prop := fnExactLockTimeRow.holds Try.pinned (OpenSpec.ofChange fnExactLockTimeWrong)

/-- 'laws.FnExactWorstBits': WHATEVER THE INPUT: true; the input reads as it did. -/
def fnExactWorstBitsSpec : ChangeSpec := { name := "fnExactWorstBits", fn := fun _ => fun
  | [d1, d2] => { results := [.lit (.bool true)], args := [d1, d2] }
  | _ => none }
def fnExactWorstBitsRow : OpenClaim := { program := "ytlhiiilibfkmpaa", sum := "d2e3906a646602485456adec0f7fa465d1c09f285eabe0f849678dcd342f9371", func := "loop.example/g01142/laws.FnExactWorstBits", spec := "fnExactWorstBits", inPlace := ["internal/abi.NoEscape", "internal/bytealg.MakeNoZero"], unfollowed := true, recurses := true, apart := false }
def FnExactWorstBitsSaid : Prop := fnExactWorstBitsRow.holds Try.pinned (OpenSpec.ofChange fnExactWorstBitsSpec)

/-- ITS FALSE NEIGHBOUR: 'it returns false'. Refute it at one input. -/
def fnExactWorstBitsWrong : ChangeSpec := { name := "fnExactWorstBits", fn := fun _ => fun
  | [d1, d2] => { results := [.lit (.bool false)], args := [d1, d2] }
  | _ => none }
def FnExactWorstBitsWrongFalsely : Prop := fnExactWorstBitsRow.holds Try.pinned (OpenSpec.ofChange fnExactWorstBitsWrong)

/-- 'laws.FnExactKeyPeriod': WHATEVER THE INPUT: true; the input reads as it did. -/
def fnExactKeyPeriodSpec : ChangeSpec := { name := "fnExactKeyPeriod", fn := fun _ => fun
  | [d] => { results := [.lit (.bool true)], args := [d] }
  | _ => none }
def fnExactKeyPeriodRow : OpenClaim := { program := "ytlhiiilibfkmpaa", sum := "d2e3906a646602485456adec0f7fa465d1c09f285eabe0f849678dcd342f9371", func := "loop.example/g01142/laws.FnExactKeyPeriod", spec := "fnExactKeyPeriod", unfollowed := true, recurses := true, apart := false }
def FnExactKeyPeriodSaid : Prop := fnExactKeyPeriodRow.holds Try.pinned (OpenSpec.ofChange fnExactKeyPeriodSpec)

/-- ITS FALSE NEIGHBOUR: 'it returns false'. Refute it at one input. -/
def fnExactKeyPeriodWrong : ChangeSpec := { name := "fnExactKeyPeriod", fn := fun _ => fun
  | [d] => { results := [.lit (.bool false)], args := [d] }
  | _ => none }
def FnExactKeyPeriodWrongFalsely : Prop := fnExactKeyPeriodRow.holds Try.pinned (OpenSpec.ofChange fnExactKeyPeriodWrong)

/-- 'laws.FnSpread': WHATEVER THE INPUT: true; the input reads as it did. -/
def fnSpreadSpec : ChangeSpec := { name := "fnSpread", fn := fun _ => fun
  | [d1, d2] => { results := [.lit (.bool true)], args := [d1, d2] }
  | _ => none }
def fnSpreadRow : OpenClaim := { program := "ytlhiiilibfkmpaa", sum := "d2e3906a646602485456adec0f7fa465d1c09f285eabe0f849678dcd342f9371", func := "loop.example/g01142/laws.FnSpread", spec := "fnSpread", inPlace := ["internal/abi.NoEscape", "internal/bytealg.MakeNoZero"], unfollowed := true, recurses := true, apart := false }
def FnSpreadSaid : Prop := fnSpreadRow.holds Try.pinned (OpenSpec.ofChange fnSpreadSpec)

/-- ITS FALSE NEIGHBOUR: 'it returns false'. Refute it at one input. -/
def fnSpreadWrong : ChangeSpec := { name := "fnSpread", fn := fun _ => fun
  | [d1, d2] => { results := [.lit (.bool false)], args := [d1, d2] }
  | _ => none }
def FnSpreadWrongFalsely : Prop := fnSpreadRow.holds Try.pinned (OpenSpec.ofChange fnSpreadWrong)

/-- 'laws.FnKeys': WHATEVER THE INPUT: true; the input reads as it did. -/
def fnKeysSpec : ChangeSpec := { name := "fnKeys", fn := fun _ => fun
  | [d1, d2] => { results := [.lit (.bool true)], args := [d1, d2] }
  | _ => none }
def fnKeysRow : OpenClaim := { program := "ytlhiiilibfkmpaa", sum := "d2e3906a646602485456adec0f7fa465d1c09f285eabe0f849678dcd342f9371", func := "loop.example/g01142/laws.FnKeys", spec := "fnKeys", inPlace := ["internal/abi.NoEscape", "internal/bytealg.MakeNoZero"], unfollowed := true, recurses := true, apart := false }
def FnKeysSaid : Prop := fnKeysRow.holds Try.pinned (OpenSpec.ofChange fnKeysSpec)

/-- ITS FALSE NEIGHBOUR: 'it returns false'. Refute it at one input. -/
def fnKeysWrong : ChangeSpec := { name := "fnKeys", fn := fun _ => fun
  | [d1, d2] => { results := [.lit (.bool false)], args := [d1, d2] }
  | _ => none }
def FnKeysWrongFalsely : Prop := fnKeysRow.holds Try.pinned (OpenSpec.ofChange fnKeysWrong)

/- THE SECOND FORM. 'bulk': how many values and letters a reading holds, each counted each time it is reached (what is shared counts as often as it is met; a slice's spare places count too). A statement '..UptoSaid' is the law's where the arguments, and the package variables that the reading takes, are together of bulk at most 1048576: NARROWER than '..Said'. Prove '..Said' where nothing that the law and all that it calls make is longer than what came in: it says more and counts as full. Else prove '..UptoSaid'. A law counts once. -/
mutual
def uptoBulk {H : Type} : DataW H → Nat
  | .lit (.string bytes) => bytes.length + 1
  | .lit _ => 1
  | .nil => 1
  | .ptr d => uptoBulk d + 1
  | .slice elems spare => uptoBulkAll elems + uptoBulkAll spare + 1
  | .agg parts => uptoBulkAll parts + 1
  | .iface _ d => uptoBulk d + 1
  | .map entries => uptoBulkEntries entries + 1
  | .held _ => 1
def uptoBulkAll {H : Type} : List (DataW H) → Nat
  | [] => 0
  | d :: r => uptoBulk d + uptoBulkAll r
def uptoBulkEntries {H : Type} : List (Lit × DataW H) → Nat
  | [] => 0
  | x :: r => uptoBulkEntry x + uptoBulkEntries r
def uptoBulkEntry {H : Type} : Lit × DataW H → Nat
  | (.string bytes, d) => bytes.length + uptoBulk d + 1
  | (_, d) => uptoBulk d + 1
 end
def uptoSmall : (H : Type) → List (DataW H) → Bool := fun _ ds => decide (uptoBulkAll ds ≤ 1048576)
def OpenSpec.upto (s : _root_.Go.ChangeSpec) : _root_.Go.OpenSpec := { _root_.Go.OpenSpec.ofChange s with cond := some uptoSmall }

/-- 'laws.FnExactValidScrambler', WHERE WHAT IT READS IS OF BULK AT MOST 1048576: true; the input reads as it did. -/
def fnExactValidScramblerUptoRow : OpenClaim := { program := "ytlhiiilibfkmpaa", sum := "d2e3906a646602485456adec0f7fa465d1c09f285eabe0f849678dcd342f9371", func := "loop.example/g01142/laws.FnExactValidScrambler", spec := "fnExactValidScrambler", apart := false, narrowed := true }
def FnExactValidScramblerUptoSaid : Prop := fnExactValidScramblerUptoRow.holds Try.pinned (OpenSpec.upto fnExactValidScramblerSpec)

/-- 'laws.FnExactKeyBits', WHERE WHAT IT READS IS OF BULK AT MOST 1048576: true; the input reads as it did. -/
def fnExactKeyBitsUptoRow : OpenClaim := { program := "ytlhiiilibfkmpaa", sum := "d2e3906a646602485456adec0f7fa465d1c09f285eabe0f849678dcd342f9371", func := "loop.example/g01142/laws.FnExactKeyBits", spec := "fnExactKeyBits", inPlace := ["internal/abi.NoEscape"], unfollowed := true, recurses := true, apart := false, narrowed := true }
def FnExactKeyBitsUptoSaid : Prop := fnExactKeyBitsUptoRow.holds Try.pinned (OpenSpec.upto fnExactKeyBitsSpec)

/-- 'laws.FnExactAddScramble', WHERE WHAT IT READS IS OF BULK AT MOST 1048576: true; the input reads as it did. -/
def fnExactAddScrambleUptoRow : OpenClaim := { program := "ytlhiiilibfkmpaa", sum := "d2e3906a646602485456adec0f7fa465d1c09f285eabe0f849678dcd342f9371", func := "loop.example/g01142/laws.FnExactAddScramble", spec := "fnExactAddScramble", inPlace := ["internal/abi.NoEscape"], unfollowed := true, recurses := true, apart := false, narrowed := true }
def FnExactAddScrambleUptoSaid : Prop := fnExactAddScrambleUptoRow.holds Try.pinned (OpenSpec.upto fnExactAddScrambleSpec)

/-- 'laws.FnExactSelfScramble', WHERE WHAT IT READS IS OF BULK AT MOST 1048576: true; the input reads as it did. -/
def fnExactSelfScrambleUptoRow : OpenClaim := { program := "ytlhiiilibfkmpaa", sum := "d2e3906a646602485456adec0f7fa465d1c09f285eabe0f849678dcd342f9371", func := "loop.example/g01142/laws.FnExactSelfScramble", spec := "fnExactSelfScramble", inPlace := ["internal/abi.NoEscape"], unfollowed := true, recurses := true, apart := false, narrowed := true }
def FnExactSelfScrambleUptoSaid : Prop := fnExactSelfScrambleUptoRow.holds Try.pinned (OpenSpec.upto fnExactSelfScrambleSpec)

/-- 'laws.FnExactSelfDescramble', WHERE WHAT IT READS IS OF BULK AT MOST 1048576: true; the input reads as it did. -/
def fnExactSelfDescrambleUptoRow : OpenClaim := { program := "ytlhiiilibfkmpaa", sum := "d2e3906a646602485456adec0f7fa465d1c09f285eabe0f849678dcd342f9371", func := "loop.example/g01142/laws.FnExactSelfDescramble", spec := "fnExactSelfDescramble", inPlace := ["internal/abi.NoEscape"], unfollowed := true, recurses := true, apart := false, narrowed := true }
def FnExactSelfDescrambleUptoSaid : Prop := fnExactSelfDescrambleUptoRow.holds Try.pinned (OpenSpec.upto fnExactSelfDescrambleSpec)

/-- 'laws.FnExactSpreadOf', WHERE WHAT IT READS IS OF BULK AT MOST 1048576: true; the input reads as it did. -/
def fnExactSpreadOfUptoRow : OpenClaim := { program := "ytlhiiilibfkmpaa", sum := "d2e3906a646602485456adec0f7fa465d1c09f285eabe0f849678dcd342f9371", func := "loop.example/g01142/laws.FnExactSpreadOf", spec := "fnExactSpreadOf", apart := false, narrowed := true }
def FnExactSpreadOfUptoSaid : Prop := fnExactSpreadOfUptoRow.holds Try.pinned (OpenSpec.upto fnExactSpreadOfSpec)

/-- 'laws.FnExactErrorsBehind', WHERE WHAT IT READS IS OF BULK AT MOST 1048576: true; the input reads as it did. -/
def fnExactErrorsBehindUptoRow : OpenClaim := { program := "ytlhiiilibfkmpaa", sum := "d2e3906a646602485456adec0f7fa465d1c09f285eabe0f849678dcd342f9371", func := "loop.example/g01142/laws.FnExactErrorsBehind", spec := "fnExactErrorsBehind", inPlace := ["internal/abi.NoEscape", "internal/bytealg.MakeNoZero"], apart := false, narrowed := true }
def FnExactErrorsBehindUptoSaid : Prop := fnExactErrorsBehindUptoRow.holds Try.pinned (OpenSpec.upto fnExactErrorsBehindSpec)

/-- 'laws.FnExactLockTime', WHERE WHAT IT READS IS OF BULK AT MOST 1048576: true; the input reads as it did. -/
def fnExactLockTimeUptoRow : OpenClaim := { program := "ytlhiiilibfkmpaa", sum := "d2e3906a646602485456adec0f7fa465d1c09f285eabe0f849678dcd342f9371", func := "loop.example/g01142/laws.FnExactLockTime", spec := "fnExactLockTime", apart := false, narrowed := true }
def FnExactLockTimeUptoSaid : Prop := fnExactLockTimeUptoRow.holds Try.pinned (OpenSpec.upto fnExactLockTimeSpec)

/-- 'laws.FnExactWorstBits', WHERE WHAT IT READS IS OF BULK AT MOST 1048576: true; the input reads as it did. -/
def fnExactWorstBitsUptoRow : OpenClaim := { program := "ytlhiiilibfkmpaa", sum := "d2e3906a646602485456adec0f7fa465d1c09f285eabe0f849678dcd342f9371", func := "loop.example/g01142/laws.FnExactWorstBits", spec := "fnExactWorstBits", inPlace := ["internal/abi.NoEscape", "internal/bytealg.MakeNoZero"], unfollowed := true, recurses := true, apart := false, narrowed := true }
def FnExactWorstBitsUptoSaid : Prop := fnExactWorstBitsUptoRow.holds Try.pinned (OpenSpec.upto fnExactWorstBitsSpec)

/-- 'laws.FnExactKeyPeriod', WHERE WHAT IT READS IS OF BULK AT MOST 1048576: true; the input reads as it did. -/
def fnExactKeyPeriodUptoRow : OpenClaim := { program := "ytlhiiilibfkmpaa", sum := "d2e3906a646602485456adec0f7fa465d1c09f285eabe0f849678dcd342f9371", func := "loop.example/g01142/laws.FnExactKeyPeriod", spec := "fnExactKeyPeriod", unfollowed := true, recurses := true, apart := false, narrowed := true }
def FnExactKeyPeriodUptoSaid : Prop := fnExactKeyPeriodUptoRow.holds Try.pinned (OpenSpec.upto fnExactKeyPeriodSpec)

/-- 'laws.FnSpread', WHERE WHAT IT READS IS OF BULK AT MOST 1048576: true; the input reads as it did. -/
def fnSpreadUptoRow : OpenClaim := { program := "ytlhiiilibfkmpaa", sum := "d2e3906a646602485456adec0f7fa465d1c09f285eabe0f849678dcd342f9371", func := "loop.example/g01142/laws.FnSpread", spec := "fnSpread", inPlace := ["internal/abi.NoEscape", "internal/bytealg.MakeNoZero"], unfollowed := true, recurses := true, apart := false, narrowed := true }
def FnSpreadUptoSaid : Prop := fnSpreadUptoRow.holds Try.pinned (OpenSpec.upto fnSpreadSpec)

/-- 'laws.FnKeys', WHERE WHAT IT READS IS OF BULK AT MOST 1048576: true; the input reads as it did. -/
def fnKeysUptoRow : OpenClaim := { program := "ytlhiiilibfkmpaa", sum := "d2e3906a646602485456adec0f7fa465d1c09f285eabe0f849678dcd342f9371", func := "loop.example/g01142/laws.FnKeys", spec := "fnKeys", inPlace := ["internal/abi.NoEscape", "internal/bytealg.MakeNoZero"], unfollowed := true, recurses := true, apart := false, narrowed := true }
def FnKeysUptoSaid : Prop := fnKeysUptoRow.holds Try.pinned (OpenSpec.upto fnKeysSpec)

end Rows
end Go.Proofs.Ytlhiiilibfkmpaa
