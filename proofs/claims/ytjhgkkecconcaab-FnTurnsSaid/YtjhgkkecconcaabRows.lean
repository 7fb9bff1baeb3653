/-
  No cell of these rows narrows 'for every input' (looked for: loops, veiled, ifaces, maps, wideKeys, modest, calm, conditions, laid).
  DERIVED. THE GIVEN ROWS OF THIS SEAT. 12 by the template 'for every input the law returns true; each argument reads behind the call as it read before'; 0 by the template 'total and deterministic' (their statements: YtjhgkkecconcaabTotals.lean).
  GIVEN WITH THE SEED: the statements are not yours to turn. If you find one false, say at which input.
  Laid BY PROGRAM, IN A SANDBOX (cutbox-rows.mjs): the forced cells as the released guide's own fill.sh prints them over the translation 7b856ce073f11622… (all of the seat's roots in one cut). By AI agents, Wed Nov 11 2026. No macro, syntax, notation, axiom, sorry.
-/
import Derived.Test.YtjhgkkecconcaabChecked
import GoSem.Claim
import GoSem.ClaimJoined
import GoSem.ClaimMapViews
import Derived.JoinedTies
import Derived.KernelRfl
namespace Go.Proofs.Ytjhgkkecconcaab
/- THE CELL 'sum', in the pinned program and in every row, IS THE sha256 OF THE DUMP (.gsa) THAT YtjhgkkecconcaabProg.lean LOADS. Nothing in Lean hashes anything: it is a label: what it is worth is what the hold of that sum in a sandbox is worth. -/
noncomputable def Try.pinned : Pinned := { name := "ytjhgkkecconcaab", sum := "7b856ce073f11622fb9438fb8e6272f47856716595cf7cf31757c88052adb3c5", checked := Try.checked }
namespace Rows
def none {H : Type} : Left H := { results := [], args := [] }

/-- 'laws.FnExactPollCycle': WHATEVER THE INPUT: true; the input reads as it did. -/
def fnExactPollCycleSpec : ChangeSpec := { name := "fnExactPollCycle", fn := fun _ => fun
  | [d1, d2] => { results := [.lit (.bool true)], args := [d1, d2] }
  | _ => none }
def fnExactPollCycleRow : OpenClaim := { program := "ytjhgkkecconcaab", sum := "7b856ce073f11622fb9438fb8e6272f47856716595cf7cf31757c88052adb3c5", func := "loop.example/g01142/laws.FnExactPollCycle", spec := "fnExactPollCycle", apart := false }
def FnExactPollCycleSaid : Prop := fnExactPollCycleRow.holds Try.pinned (OpenSpec.ofChange fnExactPollCycleSpec)

/-- ITS FALSE NEIGHBOUR: 'it returns false'. Refute it at one input. -/
def fnExactPollCycleWrong : ChangeSpec := { name := "fnExactPollCycle", fn := fun _ => fun
  | [d1, d2] => { results := [.lit (.bool false)], args := [d1, d2] }
  | _ => none }
def FnExactPollCycleWrongFalsely : Prop := fnExactPollCycleRow.holds Try.pinned (OpenSpec.ofChange fnExactPollCycleWrong)

/-- 'laws.FnExactTokenRounds': WHATEVER THE INPUT: true; the input reads as it did. -/
def fnExactTokenRoundsSpec : ChangeSpec := { name := "fnExactTokenRounds", fn := fun _ => fun
  | [d1, d2, d3] => { results := [.lit (.bool true)], args := [d1, d2, d3] }
  | _ => none }
def fnExactTokenRoundsRow : OpenClaim := { program := "ytjhgkkecconcaab", sum := "7b856ce073f11622fb9438fb8e6272f47856716595cf7cf31757c88052adb3c5", func := "loop.example/g01142/laws.FnExactTokenRounds", spec := "fnExactTokenRounds", apart := false }
def FnExactTokenRoundsSaid : Prop := fnExactTokenRoundsRow.holds Try.pinned (OpenSpec.ofChange fnExactTokenRoundsSpec)

/-- ITS FALSE NEIGHBOUR: 'it returns false'. Refute it at one input. -/
def fnExactTokenRoundsWrong : ChangeSpec := { name := "fnExactTokenRounds", fn := fun _ => fun
  | [d1, d2, d3] => { results := [.lit (.bool false)], args := [d1, d2, d3] }
  | _ => none }
def FnExactTokenRoundsWrongFalsely : Prop := fnExactTokenRoundsRow.holds Try.pinned (OpenSpec.ofChange fnExactTokenRoundsWrong)

/-- 'laws.FnExactReserveSlots': WHATEVER THE INPUT: true; the input reads as it did. -/
def fnExactReserveSlotsSpec : ChangeSpec := { name := "fnExactReserveSlots", fn := fun _ => fun
  | [d1, d2] => { results := [.lit (.bool true)], args := [d1, d2] }
  | _ => none }
def fnExactReserveSlotsRow : OpenClaim := { program := "ytjhgkkecconcaab", sum := "7b856ce073f11622fb9438fb8e6272f47856716595cf7cf31757c88052adb3c5", func := "loop.example/g01142/laws.FnExactReserveSlots", spec := "fnExactReserveSlots", apart := false }
def FnExactReserveSlotsSaid : Prop := fnExactReserveSlotsRow.holds Try.pinned (OpenSpec.ofChange fnExactReserveSlotsSpec)

/-- ITS FALSE NEIGHBOUR: 'it returns false'. Refute it at one input. -/
def fnExactReserveSlotsWrong : ChangeSpec := { name := "fnExactReserveSlots", fn := fun _ => fun
  | [d1, d2] => { results := [.lit (.bool false)], args := [d1, d2] }
  | _ => none }
def FnExactReserveSlotsWrongFalsely : Prop := fnExactReserveSlotsRow.holds Try.pinned (OpenSpec.ofChange fnExactReserveSlotsWrong)

/-- 'laws.FnTurns': WHATEVER THE INPUT: true; the input reads as it did. -/
def fnTurnsSpec : ChangeSpec := { name := "fnTurns", fn := fun _ => fun
  | [d1, d2] => { results := [.lit (.bool true)], args := [d1, d2] }
  | _ => none }
def fnTurnsRow : OpenClaim := { program := "ytjhgkkecconcaab", sum := "7b856ce073f11622fb9438fb8e6272f47856716595cf7cf31757c88052adb3c5", func := "loop.example/g01142/laws.FnTurns", spec := "fnTurns", apart := false }
def FnTurnsSaid : Prop := fnTurnsRow.holds Try.pinned (OpenSpec.ofChange fnTurnsSpec)

/-- ITS FALSE NEIGHBOUR: 'it returns false'. Refute it at one input. -/
def fnTurnsWrong : ChangeSpec := { name := "fnTurns", fn := fun _ => fun
  | [d1, d2] => { results := [.lit (.bool false)], args := [d1, d2] }
  | _ => none }
def FnTurnsWrongFalsely : Prop := fnTurnsRow.holds Try.pinned (OpenSpec.ofChange fnTurnsWrong)

/-- 'laws.FnExactBackoffRun': WHATEVER THE INPUT: true; the input reads as it did. -/
def fnExactBackoffRunSpec : ChangeSpec := { name := "fnExactBackoffRun", fn := fun _ => fun
  | [d] => { results := [.lit (.bool true)], args := [d] }
  | _ => none }
def fnExactBackoffRunRow : OpenClaim := { program := "ytjhgkkecconcaab", sum := "7b856ce073f11622fb9438fb8e6272f47856716595cf7cf31757c88052adb3c5", func := "loop.example/g01142/laws.FnExactBackoffRun", spec := "fnExactBackoffRun", unfollowed := true, recurses := true, apart := false }
def FnExactBackoffRunSaid : Prop := fnExactBackoffRunRow.holds Try.pinned (OpenSpec.ofChange fnExactBackoffRunSpec)

/-- ITS FALSE NEIGHBOUR: 'it returns false'. Refute it at one input. -/
def fnExactBackoffRunWrong : ChangeSpec := { name := "fnExactBackoffRun", fn := fun _ => fun
  | [d] => { results := [.lit (.bool false)], args := [d] }
  | _ => none }
def FnExactBackoffRunWrongFalsely : Prop := fnExactBackoffRunRow.holds Try.pinned (OpenSpec.ofChange fnExactBackoffRunWrong)

/-- 'laws.FnBackoff': WHATEVER THE INPUT: true; the input reads as it did. -/
def fnBackoffSpec : ChangeSpec := { name := "fnBackoff", fn := fun _ => fun
  | [d1, d2] => { results := [.lit (.bool true)], args := [d1, d2] }
  | _ => none }
def fnBackoffRow : OpenClaim := { program := "ytjhgkkecconcaab", sum := "7b856ce073f11622fb9438fb8e6272f47856716595cf7cf31757c88052adb3c5", func := "loop.example/g01142/laws.FnBackoff", spec := "fnBackoff", unfollowed := true, recurses := true, apart := false }
def FnBackoffSaid : Prop := fnBackoffRow.holds Try.pinned (OpenSpec.ofChange fnBackoffSpec)

/-- ITS FALSE NEIGHBOUR: 'it returns false'. Refute it at one input. -/
def fnBackoffWrong : ChangeSpec := { name := "fnBackoff", fn := fun _ => fun
  | [d1, d2] => { results := [.lit (.bool false)], args := [d1, d2] }
  | _ => none }
def FnBackoffWrongFalsely : Prop := fnBackoffRow.holds Try.pinned (OpenSpec.ofChange fnBackoffWrong)

/-- 'laws.FnExactSplitRun': WHATEVER THE INPUT: true; the input reads as it did. -/
def fnExactSplitRunSpec : ChangeSpec := { name := "fnExactSplitRun", fn := fun _ => fun
  | [d] => { results := [.lit (.bool true)], args := [d] }
  | _ => none }
def fnExactSplitRunRow : OpenClaim := { program := "ytjhgkkecconcaab", sum := "7b856ce073f11622fb9438fb8e6272f47856716595cf7cf31757c88052adb3c5", func := "loop.example/g01142/laws.FnExactSplitRun", spec := "fnExactSplitRun", unfollowed := true, recurses := true, apart := false }
def FnExactSplitRunSaid : Prop := fnExactSplitRunRow.holds Try.pinned (OpenSpec.ofChange fnExactSplitRunSpec)

/-- ITS FALSE NEIGHBOUR: 'it returns false'. Refute it at one input. -/
def fnExactSplitRunWrong : ChangeSpec := { name := "fnExactSplitRun", fn := fun _ => fun
  | [d] => { results := [.lit (.bool false)], args := [d] }
  | _ => none }
def FnExactSplitRunWrongFalsely : Prop := fnExactSplitRunRow.holds Try.pinned (OpenSpec.ofChange fnExactSplitRunWrong)

/-- 'laws.FnSplit': WHATEVER THE INPUT: true; the input reads as it did. -/
def fnSplitSpec : ChangeSpec := { name := "fnSplit", fn := fun _ => fun
  | [d1, d2] => { results := [.lit (.bool true)], args := [d1, d2] }
  | _ => none }
def fnSplitRow : OpenClaim := { program := "ytjhgkkecconcaab", sum := "7b856ce073f11622fb9438fb8e6272f47856716595cf7cf31757c88052adb3c5", func := "loop.example/g01142/laws.FnSplit", spec := "fnSplit", inPlace := ["math/bits.Sub64", "math/bits.Add64"], unfollowed := true, recurses := true, named := ["math/bits.divideError", "math/bits.overflowError"], apart := false }
def FnSplitSaid : Prop := fnSplitRow.holds Try.pinned (OpenSpec.ofChange fnSplitSpec)

/-- ITS FALSE NEIGHBOUR: 'it returns false'. Refute it at one input. -/
def fnSplitWrong : ChangeSpec := { name := "fnSplit", fn := fun _ => fun
  | [d1, d2] => { results := [.lit (.bool false)], args := [d1, d2] }
  | _ => none }
def FnSplitWrongFalsely : Prop := fnSplitRow.holds Try.pinned (OpenSpec.ofChange fnSplitWrong)

/-- 'laws.FnExactMakeBlockCode': WHATEVER THE INPUT: true; the input reads as it did. -/
def fnExactMakeBlockCodeSpec : ChangeSpec := { name := "fnExactMakeBlockCode", fn := fun _ => fun
  | [d1, d2] => { results := [.lit (.bool true)], args := [d1, d2] }
  | _ => none }
def fnExactMakeBlockCodeRow : OpenClaim := { program := "ytjhgkkecconcaab", sum := "7b856ce073f11622fb9438fb8e6272f47856716595cf7cf31757c88052adb3c5", func := "loop.example/g01142/laws.FnExactMakeBlockCode", spec := "fnExactMakeBlockCode", inPlace := ["internal/abi.NoEscape", "internal/bytealg.MakeNoZero", "internal/bytealg.CountString", "internal/bytealg.IndexByteString", "internal/bytealg.IndexString"], named := ["internal/bytealg.MaxLen"], apart := false }
def FnExactMakeBlockCodeSaid : Prop := fnExactMakeBlockCodeRow.holds Try.pinned (OpenSpec.ofChange fnExactMakeBlockCodeSpec)

/-- ITS FALSE NEIGHBOUR: 'it returns false'. Refute it at one input. -/
def fnExactMakeBlockCodeWrong : ChangeSpec := { name := "fnExactMakeBlockCode", fn := fun _ => fun
  | [d1, d2] => { results := [.lit (.bool false)], args := [d1, d2] }
  | _ => none }
def FnExactMakeBlockCodeWrongFalsely : Prop := fnExactMakeBlockCodeRow.holds Try.pinned (OpenSpec.ofChange fnExactMakeBlockCodeWrong)

/-- 'laws.FnExactCanonicalWords': WHATEVER THE INPUT: true; the input reads as it did. -/
def fnExactCanonicalWordsSpec : ChangeSpec := { name := "fnExactCanonicalWords", fn := fun _ => fun
  | [d] => { results := [.lit (.bool true)], args := [d] }
  | _ => none }
def fnExactCanonicalWordsRow : OpenClaim := { program := "ytjhgkkecconcaab", sum := "7b856ce073f11622fb9438fb8e6272f47856716595cf7cf31757c88052adb3c5", func := "loop.example/g01142/laws.FnExactCanonicalWords", spec := "fnExactCanonicalWords", unfollowed := true, recurses := true, apart := false }
def FnExactCanonicalWordsSaid : Prop := fnExactCanonicalWordsRow.holds Try.pinned (OpenSpec.ofChange fnExactCanonicalWordsSpec)

/-- ITS FALSE NEIGHBOUR: 'it returns false'. Refute it at one input. -/
def fnExactCanonicalWordsWrong : ChangeSpec := { name := "fnExactCanonicalWords", fn := fun _ => fun
  | [d] => { results := [.lit (.bool false)], args := [d] }
  | _ => none }
def FnExactCanonicalWordsWrongFalsely : Prop := fnExactCanonicalWordsRow.holds Try.pinned (OpenSpec.ofChange fnExactCanonicalWordsWrong)

/-- 'laws.FnExactIsDecodable': WHATEVER THE INPUT: true; the input reads as it did. -/
def fnExactIsDecodableSpec : ChangeSpec := { name := "fnExactIsDecodable", fn := fun _ => fun
  | [d] => { results := [.lit (.bool true)], args := [d] }
  | _ => none }
def fnExactIsDecodableRow : OpenClaim := { program := "ytjhgkkecconcaab", sum := "7b856ce073f11622fb9438fb8e6272f47856716595cf7cf31757c88052adb3c5", func := "loop.example/g01142/laws.FnExactIsDecodable", spec := "fnExactIsDecodable", unfollowed := true, recurses := true, apart := false }
def FnExactIsDecodableSaid : Prop := fnExactIsDecodableRow.holds Try.pinned (OpenSpec.ofChange fnExactIsDecodableSpec)

/-- ITS FALSE NEIGHBOUR: 'it returns false'. Refute it at one input. -/
def fnExactIsDecodableWrong : ChangeSpec := { name := "fnExactIsDecodable", fn := fun _ => fun
  | [d] => { results := [.lit (.bool false)], args := [d] }
  | _ => none }
def FnExactIsDecodableWrongFalsely : Prop := fnExactIsDecodableRow.holds Try.pinned (OpenSpec.ofChange fnExactIsDecodableWrong)

/-- 'laws.FnExactBestLengths': WHATEVER THE INPUT: true; the input reads as it did. -/
def fnExactBestLengthsSpec : ChangeSpec := { name := "fnExactBestLengths", fn := fun _ => fun
  | [d] => { results := [.lit (.bool true)], args := [d] }
  | _ => none }
def fnExactBestLengthsRow : OpenClaim := { program := "ytjhgkkecconcaab", sum := "7b856ce073f11622fb9438fb8e6272f47856716595cf7cf31757c88052adb3c5", func := "loop.example/g01142/laws.FnExactBestLengths", spec := "fnExactBestLengths", unfollowed := true, recurses := true, apart := false }
def FnExactBestLengthsSaid : Prop := fnExactBestLengthsRow.holds Try.pinned (OpenSpec.ofChange fnExactBestLengthsSpec)

/-- ITS FALSE NEIGHBOUR: 'it returns false'. Refute it at one input. -/
def fnExactBestLengthsWrong : ChangeSpec := { name := "fnExactBestLengths", fn := fun _ => fun
  | [d] => { results := [.lit (.bool false)], args := [d] }
  | _ => none }
def FnExactBestLengthsWrongFalsely : Prop := fnExactBestLengthsRow.holds Try.pinned (OpenSpec.ofChange fnExactBestLengthsWrong)

/- THE SECOND FORM. 'bulk': how many values and letters a reading holds, each counted each time it is reached (what is shared counts as often as it is met; a slice's spare places count too). A statement '..UptoSaid' is the law's where the arguments, and the package variables that the reading takes, are together of bulk at most 1048576: NARROWER than '..Said'. Prove '..Said' where nothing that the law and all that it calls make is longer than what came in: it says more and counts as full. Else prove '..UptoSaid'. A law counts once. -/
mutual
def uptoBulk {H : Type} : DataW H → Nat
  | .lit (.string bytes) => bytes.length + 1
  | .lit _ => 1
  | .nil => 1
  | .ptr d => uptoBulk d + 1
  | .slice elems spare => uptoBulkAll elems + uptoBulkAll spare + 1
  | .agg parts => uptoBulkAll parts + 1
  | .iface _ d => uptoBulk d + 1
  | .map entries => uptoBulkEntries entries + 1
  | .held _ => 1
def uptoBulkAll {H : Type} : List (DataW H) → Nat
  | [] => 0
  | d :: r => uptoBulk d + uptoBulkAll r
def uptoBulkEntries {H : Type} : List (Lit × DataW H) → Nat
  | [] => 0
  | x :: r => uptoBulkEntry x + uptoBulkEntries r
def uptoBulkEntry {H : Type} : Lit × DataW H → Nat
  | (.string bytes, d) => bytes.length + uptoBulk d + 1
  | (_, d) => uptoBulk d + 1
 end
def uptoSmall : (H : Type) → List (DataW H) → Bool := fun _ ds => decide (uptoBulkAll ds ≤ 1048576)
def OpenSpec.upto (s : _root_.Go.ChangeSpec) : _root_.Go.OpenSpec := { _root_.Go.OpenSpec.ofChange s with cond := some uptoSmall }

/-- 'laws.FnExactPollCycle', WHERE WHAT IT READS IS OF BULK AT MOST 1048576: true; the input reads as it did. -/
def fnExactPollCycleUptoRow : OpenClaim := { program := "ytjhgkkecconcaab", sum := "7b856ce073f11622fb9438fb8e6272f47856716595cf7cf31757c88052adb3c5", func := "loop.example/g01142/laws.FnExactPollCycle", spec := "fnExactPollCycle", apart := false, narrowed := true }
def FnExactPollCycleUptoSaid : Prop := fnExactPollCycleUptoRow.holds Try.pinned (OpenSpec.upto fnExactPollCycleSpec)

/-- 'laws.FnExactTokenRounds', WHERE WHAT IT READS IS OF BULK AT MOST 1048576: true; the input reads as it did. -/
def fnExactTokenRoundsUptoRow : OpenClaim := { program := "ytjhgkkecconcaab", sum := "7b856ce073f11622fb9438fb8e6272f47856716595cf7cf31757c88052adb3c5", func := "loop.example/g01142/laws.FnExactTokenRounds", spec := "fnExactTokenRounds", apart := false, narrowed := true }
def FnExactTokenRoundsUptoSaid : Prop := fnExactTokenRoundsUptoRow.holds Try.pinned (OpenSpec.upto fnExactTokenRoundsSpec)

/-- 'laws.FnExactReserveSlots', WHERE WHAT IT READS IS OF BULK AT MOST 1048576: true; the input reads as it did. -/
def fnExactReserveSlotsUptoRow : OpenClaim := { program := "ytjhgkkecconcaab", sum := "7b856ce073f11622fb9438fb8e6272f47856716595cf7cf31757c88052adb3c5", func := "loop.example/g01142/laws.FnExactReserveSlots", spec := "fnExactReserveSlots", apart := false, narrowed := true }
def FnExactReserveSlotsUptoSaid : Prop := fnExactReserveSlotsUptoRow.holds Try.pinned (OpenSpec.upto fnExactReserveSlotsSpec)

/-- 'laws.FnTurns', WHERE WHAT IT READS IS OF BULK AT MOST 1048576: true; the input reads as it did. -/
def fnTurnsUptoRow : OpenClaim := { program := "ytjhgkkecconcaab", sum := "7b856ce073f11622fb9438fb8e6272f47856716595cf7cf31757c88052adb3c5", func := "loop.example/g01142/laws.FnTurns", spec := "fnTurns", apart := false, narrowed := true }
def FnTurnsUptoSaid : Prop := fnTurnsUptoRow.holds Try.pinned (OpenSpec.upto fnTurnsSpec)

/-- 'laws.FnExactBackoffRun', WHERE WHAT IT READS IS OF BULK AT MOST 1048576: true; the input reads as it did. -/
def fnExactBackoffRunUptoRow : OpenClaim := { program := "ytjhgkkecconcaab", sum := "7b856ce073f11622fb9438fb8e6272f47856716595cf7cf31757c88052adb3c5", func := "loop.example/g01142/laws.FnExactBackoffRun", spec := "fnExactBackoffRun", unfollowed := true, recurses := true, apart := false, narrowed := true }
def FnExactBackoffRunUptoSaid : Prop := fnExactBackoffRunUptoRow.holds Try.pinned (OpenSpec.upto fnExactBackoffRunSpec)

/-- 'laws.FnBackoff', WHERE WHAT IT READS IS OF BULK AT MOST 1048576: true; the input reads as it did. -/
def fnBackoffUptoRow : OpenClaim := { program := "ytjhgkkecconcaab", sum := "7b856ce073f11622fb9438fb8e6272f47856716595cf7cf31757c88052adb3c5", func := "loop.example/g01142/laws.FnBackoff", spec := "fnBackoff", unfollowed := true, recurses := true, apart := false, narrowed := true }
def FnBackoffUptoSaid : Prop := fnBackoffUptoRow.holds Try.pinned (OpenSpec.upto fnBackoffSpec)

/-- 'laws.FnExactSplitRun', WHERE WHAT IT READS IS OF BULK AT MOST 1048576: true; the input reads as it did. -/
def fnExactSplitRunUptoRow : OpenClaim := { program := "ytjhgkkecconcaab", sum := "7b856ce073f11622fb9438fb8e6272f47856716595cf7cf31757c88052adb3c5", func := "loop.example/g01142/laws.FnExactSplitRun", spec := "fnExactSplitRun", unfollowed := true, recurses := true, apart := false, narrowed := true }
def FnExactSplitRunUptoSaid : Prop := fnExactSplitRunUptoRow.holds Try.pinned (OpenSpec.upto fnExactSplitRunSpec)

/-- 'laws.FnSplit', WHERE WHAT IT READS IS OF BULK AT MOST 1048576: true; the input reads as it did. -/
def fnSplitUptoRow : OpenClaim := { program := "ytjhgkkecconcaab", sum := "7b856ce073f11622fb9438fb8e6272f47856716595cf7cf31757c88052adb3c5", func := "loop.example/g01142/laws.FnSplit", spec := "fnSplit", inPlace := ["math/bits.Sub64", "math/bits.Add64"], unfollowed := true, recurses := true, named := ["math/bits.divideError", "math/bits.overflowError"], apart := false, narrowed := true }
def FnSplitUptoSaid : Prop := fnSplitUptoRow.holds Try.pinned (OpenSpec.upto fnSplitSpec)

/-- 'laws.FnExactMakeBlockCode', WHERE WHAT IT READS IS OF BULK AT MOST 1048576: true; the input reads as it did. -/
def fnExactMakeBlockCodeUptoRow : OpenClaim := { program := "ytjhgkkecconcaab", sum := "7b856ce073f11622fb9438fb8e6272f47856716595cf7cf31757c88052adb3c5", func := "loop.example/g01142/laws.FnExactMakeBlockCode", spec := "fnExactMakeBlockCode", inPlace := ["internal/abi.NoEscape", "internal/bytealg.MakeNoZero", "internal/bytealg.CountString", "internal/bytealg.IndexByteString", "internal/bytealg.IndexString"], named := ["internal/bytealg.MaxLen"], apart := false, narrowed := true }
def FnExactMakeBlockCodeUptoSaid : Prop := fnExactMakeBlockCodeUptoRow.holds Try.pinned (OpenSpec.upto fnExactMakeBlockCodeSpec)

/-- 'laws.FnExactCanonicalWords', WHERE WHAT IT READS IS OF BULK AT MOST 1048576: true; the input reads as it did. -/
def fnExactCanonicalWordsUptoRow : OpenClaim := { program := "ytjhgkkecconcaab", sum := "7b856ce073f11622fb9438fb8e6272f47856716595cf7cf31757c88052adb3c5", func := "loop.example/g01142/laws.FnExactCanonicalWords", spec := "fnExactCanonicalWords", unfollowed := true, recurses := true, apart := false, narrowed := true }
def FnExactCanonicalWordsUptoSaid : Prop := fnExactCanonicalWordsUptoRow.holds Try.pinned (OpenSpec.upto fnExactCanonicalWordsSpec)

/-- 'laws.FnExactIsDecodable', WHERE WHAT IT READS IS OF BULK AT MOST 1048576: true; the input reads as it did. -/
def fnExactIsDecodableUptoRow : OpenClaim := { program := "ytjhgkkecconcaab", sum := "7b856ce073f11622fb9438fb8e6272f47856716595cf7cf31757c88052adb3c5", func := "loop.example/g01142/laws.FnExactIsDecodable", spec := "fnExactIsDecodable", unfollowed := true, recurses := true, apart := false, narrowed := true }
def FnExactIsDecodableUptoSaid : Prop := fnExactIsDecodableUptoRow.holds Try.pinned (OpenSpec.upto fnExactIsDecodableSpec)

/-- 'laws.FnExactBestLengths', WHERE WHAT IT READS IS OF BULK AT MOST 1048576: true; the input reads as it did. -/
def fnExactBestLengthsUptoRow : OpenClaim := { program := "ytjhgkkecconcaab", sum := "7b856ce073f11622fb9438fb8e6272f47856716595cf7cf31757c88052adb3c5", func := "loop.example/g01142/laws.FnExactBestLengths", spec := "fnExactBestLengths", unfollowed := true, recurses := true, apart := false, narrowed := true }
def FnExactBestLengthsUptoSaid : Prop := fnExactBestLengthsUptoRow.holds Try.pinned (OpenSpec.upto fnExactBestLengthsSpec)

end Rows
end Go.Proofs.Ytjhgkkecconcaab
