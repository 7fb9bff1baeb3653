/-
  No cell of these rows narrows 'for every input' (looked for: loops, veiled, ifaces, maps, wideKeys, modest, calm, conditions, laid).
  DERIVED. THE GIVEN ROWS OF THIS SEAT. 7 by the template 'for every input the law returns true; each argument reads behind the call as it read before'; 0 by the template 'total and deterministic' (their statements: YtddlpbpcdjddpaaTotals.lean).
  GIVEN WITH THE SEED: the statements are not yours to turn. If you find one false, say at which input.
  Laid BY PROGRAM, IN A SANDBOX (cutbox-rows.mjs): the forced cells as the released guide's own fill.sh prints them over the translation 3b87ba772ad10894… (all of the seat's roots in one cut). By AI agents, Wed Nov 11 2026. No macro, syntax, notation, axiom, sorry.
-/
import Derived.Test.YtddlpbpcdjddpaaChecked
import GoSem.Claim
import GoSem.ClaimJoined
import GoSem.ClaimMapViews
import Derived.JoinedTies
import Derived.KernelRfl
namespace Go.Proofs.Ytddlpbpcdjddpaa
/- THE CELL 'sum', in the pinned program and in every row, IS THE sha256 OF THE DUMP (.gsa) THAT YtddlpbpcdjddpaaProg.lean LOADS. Nothing in Lean hashes anything: it is a label: what it is worth is what the hold of that sum in a sandbox is worth. -/
noncomputable def Try.pinned : Pinned := { name := "ytddlpbpcdjddpaa", sum := "3b87ba772ad10894d76ed706164e59575b9e81fa9f2a257a4357d9fda49da54c", checked := Try.checked }
namespace Rows
def none {H : Type} : Left H := { results := [], args := [] }

/-- 'laws.FnExactErrorsBehind': WHATEVER THE INPUT: true; the input reads as it did. -/
def fnExactErrorsBehindSpec : ChangeSpec := { name := "fnExactErrorsBehind", fn := fun _ => fun
  | [d1, d2] => { results := [.lit (.bool true)], args := [d1, d2] }
  | _ => none }
def fnExactErrorsBehindRow : OpenClaim := { program := "ytddlpbpcdjddpaa", sum := "3b87ba772ad10894d76ed706164e59575b9e81fa9f2a257a4357d9fda49da54c", func := "loop.example/g01142/laws.FnExactErrorsBehind", spec := "fnExactErrorsBehind", inPlace := ["internal/abi.NoEscape", "internal/bytealg.MakeNoZero"], apart := false }
def FnExactErrorsBehindSaid : Prop := fnExactErrorsBehindRow.holds Try.pinned (OpenSpec.ofChange fnExactErrorsBehindSpec)

/-- ITS FALSE NEIGHBOUR: 'it returns false'. Refute it at one input. -/
def fnExactErrorsBehindWrong : ChangeSpec := { name := "fnExactErrorsBehind", fn := fun _ => fun
  | [d1, d2] => { results := [.lit (.bool false)], args := [d1, d2] }
  | _ => none }
def FnExactErrorsBehindWrongFalsely : Prop := fnExactErrorsBehindRow.holds Try.pinned (OpenSpec.ofChange fnExactErrorsBehindWrong)

/-- 'laws.FnExactLockTime': WHATEVER THE INPUT: true; the input reads as it did. -/
def fnExactLockTimeSpec : ChangeSpec := { name := "fnExactLockTime", fn := fun _ => fun
  | [d] => { results := [.lit (.bool true)], args := [d] }
  | _ => none }
def fnExactLockTimeRow : OpenClaim := { program := "ytddlpbpcdjddpaa", sum := "3b87ba772ad10894d76ed706164e59575b9e81fa9f2a257a4357d9fda49da54c", func := "loop.example/g01142/laws.FnExactLockTime", spec := "fnExactLockTime", apart := false }
def FnExactLockTimeSaid : Prop := fnExactLockTimeRow.holds Try.pinned (OpenSpec.ofChange fnExactLockTimeSpec)

/-- ITS FALSE NEIGHBOUR: 'it returns false'. Refute it at one input. -/
def fnExactLockTimeWrong : ChangeSpec := { name := "fnExactLockTime", fn := fun _ => fun
  | [d] => { results := [.lit (.bool false)], args := [d] }
  | _ => none }
def FnExactLockTimeWrongFalsely : Prop := fnExactLockTimeRow.holds Try.pinned (OpenSpec.ofChange fnExactLockTimeWrong)

/-- 'laws.FnExactWorstBits': WHATEVER THE INPUT: true; the input reads as it did. -/
def fnExactWorstBitsSpec : ChangeSpec := { name := "fnExactWorstBits", fn := fun _ => fun
  | [d1, d2] => { results := [.lit (.bool true)], args := [d1, d2] }
  | _ => none }
def fnExactWorstBitsRow : OpenClaim := { program := "ytddlpbpcdjddpaa", sum := "3b87ba772ad10894d76ed706164e59575b9e81fa9f2a257a4357d9fda49da54c", func := "loop.example/g01142/laws.FnExactWorstBits", spec := "fnExactWorstBits", inPlace := ["internal/abi.NoEscape", "internal/bytealg.MakeNoZero"], unfollowed := true, recurses := true, apart := false }
def FnExactWorstBitsSaid : Prop := fnExactWorstBitsRow.holds Try.pinned (OpenSpec.ofChange fnExactWorstBitsSpec)

/-- ITS FALSE NEIGHBOUR: 'it returns false'. Refute it at one input. -/
def fnExactWorstBitsWrong : ChangeSpec := { name := "fnExactWorstBits", fn := fun _ => fun
  | [d1, d2] => { results := [.lit (.bool false)], args := [d1, d2] }
  | _ => none }
def FnExactWorstBitsWrongFalsely : Prop := fnExactWorstBitsRow.holds Try.pinned (OpenSpec.ofChange fnExactWorstBitsWrong)

/-- 'laws.FnExactKeyPeriod': WHATEVER THE INPUT: true; the input reads as it did. -/
def fnExactKeyPeriodSpec : ChangeSpec := { name := "fnExactKeyPeriod", fn := fun _ => fun
  | [d] => { results := [.lit (.bool true)], args := [d] }
  | _ => none }
def fnExactKeyPeriodRow : OpenClaim := { program := "ytddlpbpcdjddpaa", sum := "3b87ba772ad10894d76ed706164e59575b9e81fa9f2a257a4357d9fda49da54c", func := "loop.example/g01142/laws.FnExactKeyPeriod", spec := "fnExactKeyPeriod", unfollowed := true, recurses := true, apart := false }
def FnExactKeyPeriodSaid : Prop := fnExactKeyPeriodRow.holds Try.pinned (OpenSpec.ofChange fnExactKeyPeriodSpec)

/-- ITS FALSE NEIGHBOUR: 'it returns false'. Refute it at one input. -/
def fnExactKeyPeriodWrong : ChangeSpec := { name := "fnExactKeyPeriod", fn := fun _ => fun
  | [d] => { results := [.lit (.bool false)], args := [d] }
  | _ => none }
def FnExactKeyPeriodWrongFalsely : Prop := fnExactKeyPeriodRow.holds Try.pinned (OpenSpec.ofChange fnExactKeyPeriodWrong)

/-- 'laws.FnExactFindKey': WHATEVER THE INPUT: true; the input reads as it did. -/
def fnExactFindKeySpec : ChangeSpec := { name := "fnExactFindKey", fn := fun _ => fun
  | [d1, d2, d3] => { results := [.lit (.bool true)], args := [d1, d2, d3] }
  | _ => none }
def fnExactFindKeyRow : OpenClaim := { program := "ytddlpbpcdjddpaa", sum := "3b87ba772ad10894d76ed706164e59575b9e81fa9f2a257a4357d9fda49da54c", func := "loop.example/g01142/laws.FnExactFindKey", spec := "fnExactFindKey", inPlace := ["internal/abi.NoEscape"], unfollowed := true, recurses := true, apart := false }
def FnExactFindKeySaid : Prop := fnExactFindKeyRow.holds Try.pinned (OpenSpec.ofChange fnExactFindKeySpec)

/-- ITS FALSE NEIGHBOUR: 'it returns false'. Refute it at one input. -/
def fnExactFindKeyWrong : ChangeSpec := { name := "fnExactFindKey", fn := fun _ => fun
  | [d1, d2, d3] => { results := [.lit (.bool false)], args := [d1, d2, d3] }
  | _ => none }
def FnExactFindKeyWrongFalsely : Prop := fnExactFindKeyRow.holds Try.pinned (OpenSpec.ofChange fnExactFindKeyWrong)

/-- 'laws.FnSpread': WHATEVER THE INPUT: true; the input reads as it did. -/
def fnSpreadSpec : ChangeSpec := { name := "fnSpread", fn := fun _ => fun
  | [d1, d2] => { results := [.lit (.bool true)], args := [d1, d2] }
  | _ => none }
def fnSpreadRow : OpenClaim := { program := "ytddlpbpcdjddpaa", sum := "3b87ba772ad10894d76ed706164e59575b9e81fa9f2a257a4357d9fda49da54c", func := "loop.example/g01142/laws.FnSpread", spec := "fnSpread", inPlace := ["internal/abi.NoEscape", "internal/bytealg.MakeNoZero"], unfollowed := true, recurses := true, apart := false }
def FnSpreadSaid : Prop := fnSpreadRow.holds Try.pinned (OpenSpec.ofChange fnSpreadSpec)

/-- ITS FALSE NEIGHBOUR: 'it returns false'. Refute it at one input. -/
def fnSpreadWrong : ChangeSpec := { name := "fnSpread", fn := fun _ => fun
  | [d1, d2] => { results := [.lit (.bool false)], args := [d1, d2] }
  | _ => none }
def FnSpreadWrongFalsely : Prop := fnSpreadRow.holds Try.pinned (OpenSpec.ofChange fnSpreadWrong)

/-- 'laws.FnKeys': WHATEVER THE INPUT: true; the input reads as it did. -/
def fnKeysSpec : ChangeSpec := { name := "fnKeys", fn := fun _ => fun
  | [d1, d2] => { results := [.lit (.bool true)], args := [d1, d2] }
  | _ => none }
def fnKeysRow : OpenClaim := { program := "ytddlpbpcdjddpaa", sum := "3b87ba772ad10894d76ed706164e59575b9e81fa9f2a257a4357d9fda49da54c", func := "loop.example/g01142/laws.FnKeys", spec := "fnKeys", inPlace := ["internal/abi.NoEscape", "internal/bytealg.MakeNoZero"], unfollowed := true, recurses := true, apart := false }
def FnKeysSaid : Prop := fnKeysRow.holds Try.pinned (OpenSpec.ofChange fnKeysSpec)

/-- ITS FALSE NEIGHBOUR: 'it returns false'. Refute it at one input. -/
def fnKeysWrong : ChangeSpec := { name := "fnKeys", fn := fun _ => fun
  | [d1, d2] => { results := [.lit (.bool false)], args := [d1, d2] }
  | _ => none }
def FnKeysWrongFalsely : Prop := fnKeysRow.holds Try.pinned (OpenSpec.ofChange fnKeysWrong)

/- THE SECOND FORM. 'bulk': how many values and letters a reading holds, each counted each time it is reached (what is shared counts as often as it is met; a slice's spare places count too). A statement '..UptoSaid' is the law's where the arguments, and the package variables that the reading takes, are together of bulk at most 1048576: NARROWER than '..Said'. Prove '..Said' where nothing that the law and all that it calls make is longer than what came in: it says more and counts as full. Else prove '..UptoSaid'. A law counts once. -/
mutual
def uptoBulk {H : Type} : DataW H → Nat
  | .lit (.string bytes) => bytes.length + 1
  | .lit _ => 1
  | .nil => 1
  | .ptr d => uptoBulk d + 1
  | .slice elems spare => uptoBulkAll elems + uptoBulkAll spare + 1
  | .agg parts => uptoBulkAll parts + 1
  | .iface _ d => uptoBulk d + 1
  | .map entries => uptoBulkEntries entries + 1
  | .held _ => 1
def uptoBulkAll {H : Type} : List (DataW H) → Nat
  | [] => 0
  | d :: r => uptoBulk d + uptoBulkAll r
def uptoBulkEntries {H : Type} : List (Lit × DataW H) → Nat
  | [] => 0
  | x :: r => uptoBulkEntry x + uptoBulkEntries r
def uptoBulkEntry {H : Type} : Lit × DataW H → Nat
  | (.string bytes, d) => bytes.length + uptoBulk d + 1
  | (_, d) => uptoBulk d + 1
 end
def uptoSmall : (H : Type) → List (DataW H) → Bool := fun _ ds => decide (uptoBulkAll ds ≤ 1048576)
def OpenSpec.upto (s : _root_.Go.ChangeSpec) : _root_.Go.OpenSpec := { _root_.Go.OpenSpec.ofChange s with cond := some uptoSmall }

/-- 'laws.FnExactErrorsBehind', WHERE WHAT IT READS IS OF BULK AT MOST 1048576: true; the input reads as it did. -/
def fnExactErrorsBehindUptoRow : OpenClaim := { program := "ytddlpbpcdjddpaa", sum := "3b87ba772ad10894d76ed706164e59575b9e81fa9f2a257a4357d9fda49da54c", func := "loop.example/g01142/laws.FnExactErrorsBehind", spec := "fnExactErrorsBehind", inPlace := ["internal/abi.NoEscape", "internal/bytealg.MakeNoZero"], apart := false, narrowed := true }
def FnExactErrorsBehindUptoSaid : Prop := fnExactErrorsBehindUptoRow.holds Try.pinned (OpenSpec.upto fnExactErrorsBehindSpec)

/-- 'laws.FnExactLockTime', WHERE WHAT IT READS IS OF BULK AT MOST 1048576: true; the input reads as it did. -/
def fnExactLockTimeUptoRow : OpenClaim := { program := "ytddlpbpcdjddpaa", sum := "3b87ba772ad10894d76ed706164e59575b9e81fa9f2a257a4357d9fda49da54c", func := "loop.example/g01142/laws.FnExactLockTime", spec := "fnExactLockTime", apart := false, narrowed := true }
def FnExactLockTimeUptoSaid : Prop := fnExactLockTimeUptoRow.holds Try.pinned (OpenSpec.upto fnExactLockTimeSpec)

/-- 'laws.FnExactWorstBits', WHERE WHAT IT READS IS OF BULK AT MOST 1048576: true; the input reads as it did. -/
def fnExactWorstBitsUptoRow : OpenClaim := { program := "ytddlpbpcdjddpaa", sum := "3b87ba772ad10894d76ed706164e59575b9e81fa9f2a257a4357d9fda49da54c", func := "loop.example/g01142/laws.FnExactWorstBits", spec := "fnExactWorstBits", inPlace := ["internal/abi.NoEscape", "internal/bytealg.MakeNoZero"], unfollowed := true, recurses := true, apart := false, narrowed := true }
def FnExactWorstBitsUptoSaid : Prop := fnExactWorstBitsUptoRow.holds Try.pinned (OpenSpec.upto fnExactWorstBitsSpec)

/-- 'laws.FnExactKeyPeriod', WHERE WHAT IT READS IS OF BULK AT MOST 1048576: true; the input reads as it did. -/
def fnExactKeyPeriodUptoRow : OpenClaim := { program := "ytddlpbpcdjddpaa", sum := "3b87ba772ad10894d76ed706164e59575b9e81fa9f2a257a4357d9fda49da54c", func := "loop.example/g01142/laws.FnExactKeyPeriod", spec := "fnExactKeyPeriod", unfollowed := true, recurses := true, apart := false, narrowed := true }
def FnExactKeyPeriodUptoSaid : Prop := fnExactKeyPeriodUptoRow.holds Try.pinned (OpenSpec.upto fnExactKeyPeriodSpec)

/-- 'laws.FnExactFindKey', WHERE WHAT IT READS IS OF BULK AT MOST 1048576: true; the input reads as it did. -/
def fnExactFindKeyUptoRow : OpenClaim := { program := "ytddlpbpcdjddpaa", sum := "3b87ba772ad10894d76ed706164e59575b9e81fa9f2a257a4357d9fda49da54c", func := "loop.example/g01142/laws.FnExactFindKey", spec := "fnExactFindKey", inPlace := ["internal/abi.NoEscape"], unfollowed := true, recurses := true, apart := false, narrowed := true }
def FnExactFindKeyUptoSaid : Prop := fnExactFindKeyUptoRow.holds Try.pinned (OpenSpec.upto fnExactFindKeySpec)

/-- 'laws.FnSpread', WHERE WHAT IT READS IS OF BULK AT MOST 1048576: true; the input reads as it did. -/
def fnSpreadUptoRow : OpenClaim := { program := "ytddlpbpcdjddpaa", sum := "3b87ba772ad10894d76ed706164e59575b9e81fa9f2a257a4357d9fda49da54c", func := "loop.example/g01142/laws.FnSpread", spec := "fnSpread", inPlace := ["internal/abi.NoEscape", "internal/bytealg.MakeNoZero"], unfollowed := true, recurses := true, apart := false, narrowed := true }
def FnSpreadUptoSaid : Prop := fnSpreadUptoRow.holds Try.pinned (OpenSpec.upto fnSpreadSpec)

/-- 'laws.FnKeys', WHERE WHAT IT READS IS OF BULK AT MOST 1048576: true; the input reads as it did. -/
def fnKeysUptoRow : OpenClaim := { program := "ytddlpbpcdjddpaa", sum := "3b87ba772ad10894d76ed706164e59575b9e81fa9f2a257a4357d9fda49da54c", func := "loop.example/g01142/laws.FnKeys", spec := "fnKeys", inPlace := ["internal/abi.NoEscape", "internal/bytealg.MakeNoZero"], unfollowed := true, recurses := true, apart := false, narrowed := true }
def FnKeysUptoSaid : Prop := fnKeysUptoRow.holds Try.pinned (OpenSpec.upto fnKeysSpec)

end Rows
end Go.Proofs.Ytddlpbpcdjddpaa
