/-
  NARROWER THAN 'FOR EVERY INPUT', by the rows' own cells (each row's printed sentence says how): FnExactWorstFlat: calm · FnFlats: calm.
  DERIVED. THE GIVEN ROWS OF THIS SEAT. 14 by the template 'for every input the law returns true; each argument reads behind the call as it read before'; 0 by the template 'total and deterministic' (their statements: YtmhdjimdhcephaaTotals.lean).
  GIVEN WITH THE SEED: the statements are not yours to turn. If you find one false, say at which input.
  Laid BY PROGRAM, IN A SANDBOX (cutbox-rows.mjs): the forced cells as the released guide's own fill.sh prints them over the translation 6a714254cc3d8cb7… (all of the seat's roots in one cut). By AI agents, Wed Nov 11 2026. No macro, syntax, notation, axiom, sorry.
-/
import Derived.Test.YtmhdjimdhcephaaChecked
import GoSem.Claim
import GoSem.ClaimJoined
import GoSem.ClaimMapViews
import Derived.JoinedTies
import Derived.KernelRfl
namespace Go.Proofs.Ytmhdjimdhcephaa
/- THE CELL 'sum', in the pinned program and in every row, IS THE sha256 OF THE DUMP (.gsa) THAT YtmhdjimdhcephaaProg.lean LOADS. Nothing in Lean hashes anything: it is a label: what it is worth is what the hold of that sum in a sandbox is worth. -/
noncomputable def Try.pinned : Pinned := { name := "ytmhdjimdhcephaa", sum := "6a714254cc3d8cb7731169ef2db3c429b3b76575e1cda9cc5ed892c50f1b3edd", checked := Try.checked }
namespace Rows
def none {H : Type} : Left H := { results := [], args := [] }

/-- 'laws.FnExactSumsOf': WHATEVER THE INPUT: true; the input reads as it did. -/
def fnExactSumsOfSpec : ChangeSpec := { name := "fnExactSumsOf", fn := fun _ => fun
  | [d] => { results := [.lit (.bool true)], args := [d] }
  | _ => none }
def fnExactSumsOfRow : OpenClaim := { program := "ytmhdjimdhcephaa", sum := "6a714254cc3d8cb7731169ef2db3c429b3b76575e1cda9cc5ed892c50f1b3edd", func := "loop.example/g01142/laws.FnExactSumsOf", spec := "fnExactSumsOf", unfollowed := true, recurses := true, leaving := true, apart := false }
def FnExactSumsOfSaid : Prop := fnExactSumsOfRow.holds Try.pinned (OpenSpec.ofChange fnExactSumsOfSpec)

/-- ITS FALSE NEIGHBOUR: 'it returns false'. Refute it at one input. -/
def fnExactSumsOfWrong : ChangeSpec := { name := "fnExactSumsOf", fn := fun _ => fun
  | [d] => { results := [.lit (.bool false)], args := [d] }
  | _ => none }
def FnExactSumsOfWrongFalsely : Prop := fnExactSumsOfRow.holds Try.pinned (OpenSpec.ofChange fnExactSumsOfWrong)

/-- 'laws.FnExactTurnLevels': WHATEVER THE INPUT: true; the input reads as it did. -/
def fnExactTurnLevelsSpec : ChangeSpec := { name := "fnExactTurnLevels", fn := fun _ => fun
  | [d] => { results := [.lit (.bool true)], args := [d] }
  | _ => none }
def fnExactTurnLevelsRow : OpenClaim := { program := "ytmhdjimdhcephaa", sum := "6a714254cc3d8cb7731169ef2db3c429b3b76575e1cda9cc5ed892c50f1b3edd", func := "loop.example/g01142/laws.FnExactTurnLevels", spec := "fnExactTurnLevels", unfollowed := true, recurses := true, leaving := true, apart := false }
def FnExactTurnLevelsSaid : Prop := fnExactTurnLevelsRow.holds Try.pinned (OpenSpec.ofChange fnExactTurnLevelsSpec)

/-- ITS FALSE NEIGHBOUR: 'it returns false'. Refute it at one input. -/
def fnExactTurnLevelsWrong : ChangeSpec := { name := "fnExactTurnLevels", fn := fun _ => fun
  | [d] => { results := [.lit (.bool false)], args := [d] }
  | _ => none }
def FnExactTurnLevelsWrongFalsely : Prop := fnExactTurnLevelsRow.holds Try.pinned (OpenSpec.ofChange fnExactTurnLevelsWrong)

/-- 'laws.FnExactLongestFlat': WHATEVER THE INPUT: true; the input reads as it did. -/
def fnExactLongestFlatSpec : ChangeSpec := { name := "fnExactLongestFlat", fn := fun _ => fun
  | [d] => { results := [.lit (.bool true)], args := [d] }
  | _ => none }
def fnExactLongestFlatRow : OpenClaim := { program := "ytmhdjimdhcephaa", sum := "6a714254cc3d8cb7731169ef2db3c429b3b76575e1cda9cc5ed892c50f1b3edd", func := "loop.example/g01142/laws.FnExactLongestFlat", spec := "fnExactLongestFlat", unfollowed := true, recurses := true, leaving := true, apart := false }
def FnExactLongestFlatSaid : Prop := fnExactLongestFlatRow.holds Try.pinned (OpenSpec.ofChange fnExactLongestFlatSpec)

/-- ITS FALSE NEIGHBOUR: 'it returns false'. Refute it at one input. -/
def fnExactLongestFlatWrong : ChangeSpec := { name := "fnExactLongestFlat", fn := fun _ => fun
  | [d] => { results := [.lit (.bool false)], args := [d] }
  | _ => none }
def FnExactLongestFlatWrongFalsely : Prop := fnExactLongestFlatRow.holds Try.pinned (OpenSpec.ofChange fnExactLongestFlatWrong)

/-- 'laws.FnExactChangesOf': WHATEVER THE INPUT: true; the input reads as it did. -/
def fnExactChangesOfSpec : ChangeSpec := { name := "fnExactChangesOf", fn := fun _ => fun
  | [d] => { results := [.lit (.bool true)], args := [d] }
  | _ => none }
def fnExactChangesOfRow : OpenClaim := { program := "ytmhdjimdhcephaa", sum := "6a714254cc3d8cb7731169ef2db3c429b3b76575e1cda9cc5ed892c50f1b3edd", func := "loop.example/g01142/laws.FnExactChangesOf", spec := "fnExactChangesOf", unfollowed := true, recurses := true, leaving := true, apart := false }
def FnExactChangesOfSaid : Prop := fnExactChangesOfRow.holds Try.pinned (OpenSpec.ofChange fnExactChangesOfSpec)

/-- ITS FALSE NEIGHBOUR: 'it returns false'. Refute it at one input. -/
def fnExactChangesOfWrong : ChangeSpec := { name := "fnExactChangesOf", fn := fun _ => fun
  | [d] => { results := [.lit (.bool false)], args := [d] }
  | _ => none }
def FnExactChangesOfWrongFalsely : Prop := fnExactChangesOfRow.holds Try.pinned (OpenSpec.ofChange fnExactChangesOfWrong)

/-- 'laws.FnExactLevelsOf': WHATEVER THE INPUT: true; the input reads as it did. -/
def fnExactLevelsOfSpec : ChangeSpec := { name := "fnExactLevelsOf", fn := fun _ => fun
  | [d1, d2] => { results := [.lit (.bool true)], args := [d1, d2] }
  | _ => none }
def fnExactLevelsOfRow : OpenClaim := { program := "ytmhdjimdhcephaa", sum := "6a714254cc3d8cb7731169ef2db3c429b3b76575e1cda9cc5ed892c50f1b3edd", func := "loop.example/g01142/laws.FnExactLevelsOf", spec := "fnExactLevelsOf", unfollowed := true, recurses := true, leaving := true, apart := false }
def FnExactLevelsOfSaid : Prop := fnExactLevelsOfRow.holds Try.pinned (OpenSpec.ofChange fnExactLevelsOfSpec)

/-- ITS FALSE NEIGHBOUR: 'it returns false'. Refute it at one input. -/
def fnExactLevelsOfWrong : ChangeSpec := { name := "fnExactLevelsOf", fn := fun _ => fun
  | [d1, d2] => { results := [.lit (.bool false)], args := [d1, d2] }
  | _ => none }
def FnExactLevelsOfWrongFalsely : Prop := fnExactLevelsOfRow.holds Try.pinned (OpenSpec.ofChange fnExactLevelsOfWrong)

/-- 'laws.FnExactReadLevels': WHATEVER THE INPUT: true; the input reads as it did. -/
def fnExactReadLevelsSpec : ChangeSpec := { name := "fnExactReadLevels", fn := fun _ => fun
  | [d1, d2] => { results := [.lit (.bool true)], args := [d1, d2] }
  | _ => none }
def fnExactReadLevelsRow : OpenClaim := { program := "ytmhdjimdhcephaa", sum := "6a714254cc3d8cb7731169ef2db3c429b3b76575e1cda9cc5ed892c50f1b3edd", func := "loop.example/g01142/laws.FnExactReadLevels", spec := "fnExactReadLevels", inPlace := ["internal/abi.NoEscape"], unfollowed := true, recurses := true, leaving := true, apart := false }
def FnExactReadLevelsSaid : Prop := fnExactReadLevelsRow.holds Try.pinned (OpenSpec.ofChange fnExactReadLevelsSpec)

/-- ITS FALSE NEIGHBOUR: 'it returns false'. Refute it at one input. -/
def fnExactReadLevelsWrong : ChangeSpec := { name := "fnExactReadLevels", fn := fun _ => fun
  | [d1, d2] => { results := [.lit (.bool false)], args := [d1, d2] }
  | _ => none }
def FnExactReadLevelsWrongFalsely : Prop := fnExactReadLevelsRow.holds Try.pinned (OpenSpec.ofChange fnExactReadLevelsWrong)

/-- 'laws.FnExactBitsOfLevels': WHATEVER THE INPUT: true; the input reads as it did. -/
def fnExactBitsOfLevelsSpec : ChangeSpec := { name := "fnExactBitsOfLevels", fn := fun _ => fun
  | [d1, d2] => { results := [.lit (.bool true)], args := [d1, d2] }
  | _ => none }
def fnExactBitsOfLevelsRow : OpenClaim := { program := "ytmhdjimdhcephaa", sum := "6a714254cc3d8cb7731169ef2db3c429b3b76575e1cda9cc5ed892c50f1b3edd", func := "loop.example/g01142/laws.FnExactBitsOfLevels", spec := "fnExactBitsOfLevels", inPlace := ["internal/abi.NoEscape"], unfollowed := true, recurses := true, leaving := true, apart := false }
def FnExactBitsOfLevelsSaid : Prop := fnExactBitsOfLevelsRow.holds Try.pinned (OpenSpec.ofChange fnExactBitsOfLevelsSpec)

/-- ITS FALSE NEIGHBOUR: 'it returns false'. Refute it at one input. -/
def fnExactBitsOfLevelsWrong : ChangeSpec := { name := "fnExactBitsOfLevels", fn := fun _ => fun
  | [d1, d2] => { results := [.lit (.bool false)], args := [d1, d2] }
  | _ => none }
def FnExactBitsOfLevelsWrongFalsely : Prop := fnExactBitsOfLevelsRow.holds Try.pinned (OpenSpec.ofChange fnExactBitsOfLevelsWrong)

/-- 'laws.FnExactFirstWrong': WHATEVER THE INPUT: true; the input reads as it did. -/
def fnExactFirstWrongSpec : ChangeSpec := { name := "fnExactFirstWrong", fn := fun _ => fun
  | [d1, d2] => { results := [.lit (.bool true)], args := [d1, d2] }
  | _ => none }
def fnExactFirstWrongRow : OpenClaim := { program := "ytmhdjimdhcephaa", sum := "6a714254cc3d8cb7731169ef2db3c429b3b76575e1cda9cc5ed892c50f1b3edd", func := "loop.example/g01142/laws.FnExactFirstWrong", spec := "fnExactFirstWrong", unfollowed := true, recurses := true, leaving := true, apart := false }
def FnExactFirstWrongSaid : Prop := fnExactFirstWrongRow.holds Try.pinned (OpenSpec.ofChange fnExactFirstWrongSpec)

/-- ITS FALSE NEIGHBOUR: 'it returns false'. Refute it at one input. -/
def fnExactFirstWrongWrong : ChangeSpec := { name := "fnExactFirstWrong", fn := fun _ => fun
  | [d1, d2] => { results := [.lit (.bool false)], args := [d1, d2] }
  | _ => none }
def FnExactFirstWrongWrongFalsely : Prop := fnExactFirstWrongRow.holds Try.pinned (OpenSpec.ofChange fnExactFirstWrongWrong)

/-- 'laws.FnExactWrongBehind': WHATEVER THE INPUT: true; the input reads as it did. -/
def fnExactWrongBehindSpec : ChangeSpec := { name := "fnExactWrongBehind", fn := fun _ => fun
  | [d1, d2, d3, d4] => { results := [.lit (.bool true)], args := [d1, d2, d3, d4] }
  | _ => none }
def fnExactWrongBehindRow : OpenClaim := { program := "ytmhdjimdhcephaa", sum := "6a714254cc3d8cb7731169ef2db3c429b3b76575e1cda9cc5ed892c50f1b3edd", func := "loop.example/g01142/laws.FnExactWrongBehind", spec := "fnExactWrongBehind", inPlace := ["internal/abi.NoEscape", "internal/bytealg.CountString", "internal/bytealg.IndexByteString", "internal/bytealg.IndexString"], unfollowed := true, recurses := true, named := ["internal/bytealg.MaxLen"], leaving := true, apart := false }
def FnExactWrongBehindSaid : Prop := fnExactWrongBehindRow.holds Try.pinned (OpenSpec.ofChange fnExactWrongBehindSpec)

/-- ITS FALSE NEIGHBOUR: 'it returns false'. Refute it at one input. -/
def fnExactWrongBehindWrong : ChangeSpec := { name := "fnExactWrongBehind", fn := fun _ => fun
  | [d1, d2, d3, d4] => { results := [.lit (.bool false)], args := [d1, d2, d3, d4] }
  | _ => none }
def FnExactWrongBehindWrongFalsely : Prop := fnExactWrongBehindRow.holds Try.pinned (OpenSpec.ofChange fnExactWrongBehindWrong)

/-- 'laws.FnExactWorstFlat': WHATEVER THE INPUT: true; the input reads as it did. -/
def fnExactWorstFlatSpec : ChangeSpec := { name := "fnExactWorstFlat", fn := fun _ => fun
  | [d1, d2] => { results := [.lit (.bool true)], args := [d1, d2] }
  | _ => none }
def fnExactWorstFlatRow : OpenClaim := { program := "ytmhdjimdhcephaa", sum := "6a714254cc3d8cb7731169ef2db3c429b3b76575e1cda9cc5ed892c50f1b3edd", func := "loop.example/g01142/laws.FnExactWorstFlat", spec := "fnExactWorstFlat", inPlace := ["internal/abi.NoEscape", "internal/bytealg.MakeNoZero", "(*sync.WaitGroup).Add", "internal/race.ReleaseMerge", "internal/race.Disable", "internal/race.Enable", "internal/synctest.IsInBubble", "internal/synctest.Associate[sync.WaitGroup]", "sync.fatal", "sync/atomic.OrUint64", "sync/atomic.AddUint64", "internal/race.Read", "sync/atomic.LoadUint64", "sync/atomic.StoreUint64", "internal/synctest.Disassociate[sync.WaitGroup]", "sync.runtime_Semrelease", "(*sync.WaitGroup).Done", "(*internal/sync.Mutex).Lock", "sync/atomic.CompareAndSwapInt32", "internal/race.Acquire", "(*internal/sync.Mutex).lockSlow", "internal/sync.runtime_canSpin", "internal/sync.runtime_doSpin", "internal/sync.throw", "internal/sync.runtime_nanotime", "internal/sync.runtime_SemacquireMutex", "sync/atomic.AddInt32", "(*internal/sync.Mutex).Unlock", "(*internal/sync.Mutex).unlockSlow", "internal/sync.fatal", "internal/sync.runtime_Semrelease", "(*sync.WaitGroup).Wait", "internal/synctest.IsAssociated[sync.WaitGroup]", "sync/atomic.CompareAndSwapUint64", "internal/race.Write", "sync.runtime_SemacquireWaitGroup"], unfollowed := true, recurses := true, leaving := true, apart := false, calm := true, outside := [.timePasses] }
def FnExactWorstFlatSaid : Prop := fnExactWorstFlatRow.holds Try.pinned (OpenSpec.ofChange fnExactWorstFlatSpec)

/-- ITS FALSE NEIGHBOUR: 'it returns false'. Refute it at one input. -/
def fnExactWorstFlatWrong : ChangeSpec := { name := "fnExactWorstFlat", fn := fun _ => fun
  | [d1, d2] => { results := [.lit (.bool false)], args := [d1, d2] }
  | _ => none }
def FnExactWorstFlatWrongFalsely : Prop := fnExactWorstFlatRow.holds Try.pinned (OpenSpec.ofChange fnExactWorstFlatWrong)

/-- 'laws.FnExactReadLevelsText': WHATEVER THE INPUT: true; the input reads as it did. -/
def fnExactReadLevelsTextSpec : ChangeSpec := { name := "fnExactReadLevelsText", fn := fun _ => fun
  | [d] => { results := [.lit (.bool true)], args := [d] }
  | _ => none }
def fnExactReadLevelsTextRow : OpenClaim := { program := "ytmhdjimdhcephaa", sum := "6a714254cc3d8cb7731169ef2db3c429b3b76575e1cda9cc5ed892c50f1b3edd", func := "loop.example/g01142/laws.FnExactReadLevelsText", spec := "fnExactReadLevelsText", inPlace := ["internal/bytealg.IndexByteString", "internal/bytealg.IndexString"], unfollowed := true, recurses := true, named := ["internal/bytealg.MaxLen"], leaving := true, apart := false }
def FnExactReadLevelsTextSaid : Prop := fnExactReadLevelsTextRow.holds Try.pinned (OpenSpec.ofChange fnExactReadLevelsTextSpec)

/-- ITS FALSE NEIGHBOUR: 'it returns false'. Refute it at one input. -/
def fnExactReadLevelsTextWrong : ChangeSpec := { name := "fnExactReadLevelsText", fn := fun _ => fun
  | [d] => { results := [.lit (.bool false)], args := [d] }
  | _ => none }
def FnExactReadLevelsTextWrongFalsely : Prop := fnExactReadLevelsTextRow.holds Try.pinned (OpenSpec.ofChange fnExactReadLevelsTextWrong)

/-- 'laws.FnTurnedLevels': WHATEVER THE INPUT: true; the input reads as it did. -/
def fnTurnedLevelsSpec : ChangeSpec := { name := "fnTurnedLevels", fn := fun _ => fun
  | [d1, d2] => { results := [.lit (.bool true)], args := [d1, d2] }
  | _ => none }
def fnTurnedLevelsRow : OpenClaim := { program := "ytmhdjimdhcephaa", sum := "6a714254cc3d8cb7731169ef2db3c429b3b76575e1cda9cc5ed892c50f1b3edd", func := "loop.example/g01142/laws.FnTurnedLevels", spec := "fnTurnedLevels", inPlace := ["internal/abi.NoEscape"], unfollowed := true, recurses := true, leaving := true, apart := false }
def FnTurnedLevelsSaid : Prop := fnTurnedLevelsRow.holds Try.pinned (OpenSpec.ofChange fnTurnedLevelsSpec)

/-- ITS FALSE NEIGHBOUR: 'it returns false'. Refute it at one input. -/
def fnTurnedLevelsWrong : ChangeSpec := { name := "fnTurnedLevels", fn := fun _ => fun
  | [d1, d2] => { results := [.lit (.bool false)], args := [d1, d2] }
  | _ => none }
def FnTurnedLevelsWrongFalsely : Prop := fnTurnedLevelsRow.holds Try.pinned (OpenSpec.ofChange fnTurnedLevelsWrong)

/-- 'laws.FnWrongLevels': WHATEVER THE INPUT: true; the input reads as it did. -/
def fnWrongLevelsSpec : ChangeSpec := { name := "fnWrongLevels", fn := fun _ => fun
  | [d1, d2] => { results := [.lit (.bool true)], args := [d1, d2] }
  | _ => none }
def fnWrongLevelsRow : OpenClaim := { program := "ytmhdjimdhcephaa", sum := "6a714254cc3d8cb7731169ef2db3c429b3b76575e1cda9cc5ed892c50f1b3edd", func := "loop.example/g01142/laws.FnWrongLevels", spec := "fnWrongLevels", inPlace := ["internal/abi.NoEscape", "internal/bytealg.CountString", "internal/bytealg.IndexByteString", "internal/bytealg.IndexString"], unfollowed := true, recurses := true, named := ["internal/bytealg.MaxLen"], leaving := true, apart := false }
def FnWrongLevelsSaid : Prop := fnWrongLevelsRow.holds Try.pinned (OpenSpec.ofChange fnWrongLevelsSpec)

/-- ITS FALSE NEIGHBOUR: 'it returns false'. Refute it at one input. -/
def fnWrongLevelsWrong : ChangeSpec := { name := "fnWrongLevels", fn := fun _ => fun
  | [d1, d2] => { results := [.lit (.bool false)], args := [d1, d2] }
  | _ => none }
def FnWrongLevelsWrongFalsely : Prop := fnWrongLevelsRow.holds Try.pinned (OpenSpec.ofChange fnWrongLevelsWrong)

/-- 'laws.FnFlats': WHATEVER THE INPUT: true; the input reads as it did. -/
def fnFlatsSpec : ChangeSpec := { name := "fnFlats", fn := fun _ => fun
  | [d1, d2] => { results := [.lit (.bool true)], args := [d1, d2] }
  | _ => none }
def fnFlatsRow : OpenClaim := { program := "ytmhdjimdhcephaa", sum := "6a714254cc3d8cb7731169ef2db3c429b3b76575e1cda9cc5ed892c50f1b3edd", func := "loop.example/g01142/laws.FnFlats", spec := "fnFlats", inPlace := ["internal/abi.NoEscape", "internal/bytealg.MakeNoZero", "(*sync.WaitGroup).Add", "internal/race.ReleaseMerge", "internal/race.Disable", "internal/race.Enable", "internal/synctest.IsInBubble", "internal/synctest.Associate[sync.WaitGroup]", "sync.fatal", "sync/atomic.OrUint64", "sync/atomic.AddUint64", "internal/race.Read", "sync/atomic.LoadUint64", "sync/atomic.StoreUint64", "internal/synctest.Disassociate[sync.WaitGroup]", "sync.runtime_Semrelease", "(*sync.WaitGroup).Done", "(*internal/sync.Mutex).Lock", "sync/atomic.CompareAndSwapInt32", "internal/race.Acquire", "(*internal/sync.Mutex).lockSlow", "internal/sync.runtime_canSpin", "internal/sync.runtime_doSpin", "internal/sync.throw", "internal/sync.runtime_nanotime", "internal/sync.runtime_SemacquireMutex", "sync/atomic.AddInt32", "(*internal/sync.Mutex).Unlock", "(*internal/sync.Mutex).unlockSlow", "internal/sync.fatal", "internal/sync.runtime_Semrelease", "(*sync.WaitGroup).Wait", "internal/synctest.IsAssociated[sync.WaitGroup]", "sync/atomic.CompareAndSwapUint64", "internal/race.Write", "sync.runtime_SemacquireWaitGroup"], unfollowed := true, recurses := true, leaving := true, apart := false, calm := true, outside := [.timePasses] }
def FnFlatsSaid : Prop := fnFlatsRow.holds Try.pinned (OpenSpec.ofChange fnFlatsSpec)

/-- ITS FALSE NEIGHBOUR: 'it returns false'. Refute it at one input. -/
def fnFlatsWrong : ChangeSpec := { name := "fnFlats", fn := fun _ => fun
  | [d1, d2] => { results := [.lit (.bool false)], args := [d1, d2] }
  | _ => none }
def FnFlatsWrongFalsely : Prop := fnFlatsRow.holds Try.pinned (OpenSpec.ofChange fnFlatsWrong)

/- THE SECOND FORM. 'bulk': how many values and letters a reading holds, each counted each time it is reached (what is shared counts as often as it is met; a slice's spare places count too). A statement '..UptoSaid' is the law's where the arguments, and the package variables that the reading takes, are together of bulk at most 1048576: NARROWER than '..Said'. Prove '..Said' where nothing that the law and all that it calls make is longer than what came in: it says more and counts as full. Else prove '..UptoSaid'. A law counts once. -/
mutual
def uptoBulk {H : Type} : DataW H → Nat
  | .lit (.string bytes) => bytes.length + 1
  | .lit _ => 1
  | .nil => 1
  | .ptr d => uptoBulk d + 1
  | .slice elems spare => uptoBulkAll elems + uptoBulkAll spare + 1
  | .agg parts => uptoBulkAll parts + 1
  | .iface _ d => uptoBulk d + 1
  | .map entries => uptoBulkEntries entries + 1
  | .held _ => 1
def uptoBulkAll {H : Type} : List (DataW H) → Nat
  | [] => 0
  | d :: r => uptoBulk d + uptoBulkAll r
def uptoBulkEntries {H : Type} : List (Lit × DataW H) → Nat
  | [] => 0
  | x :: r => uptoBulkEntry x + uptoBulkEntries r
def uptoBulkEntry {H : Type} : Lit × DataW H → Nat
  | (.string bytes, d) => bytes.length + uptoBulk d + 1
  | (_, d) => uptoBulk d + 1
 end
def uptoSmall : (H : Type) → List (DataW H) → Bool := fun _ ds => decide (uptoBulkAll ds ≤ 1048576)
def OpenSpec.upto (s : _root_.Go.ChangeSpec) : _root_.Go.OpenSpec := { _root_.Go.OpenSpec.ofChange s with cond := some uptoSmall }

/-- 'laws.FnExactSumsOf', WHERE WHAT IT READS IS OF BULK AT MOST 1048576: true; the input reads as it did. -/
def fnExactSumsOfUptoRow : OpenClaim := { program := "ytmhdjimdhcephaa", sum := "6a714254cc3d8cb7731169ef2db3c429b3b76575e1cda9cc5ed892c50f1b3edd", func := "loop.example/g01142/laws.FnExactSumsOf", spec := "fnExactSumsOf", unfollowed := true, recurses := true, leaving := true, apart := false, narrowed := true }
def FnExactSumsOfUptoSaid : Prop := fnExactSumsOfUptoRow.holds Try.pinned (OpenSpec.upto fnExactSumsOfSpec)

/-- 'laws.FnExactTurnLevels', WHERE WHAT IT READS IS OF BULK AT MOST 1048576: true; the input reads as it did. -/
def fnExactTurnLevelsUptoRow : OpenClaim := { program := "ytmhdjimdhcephaa", sum := "6a714254cc3d8cb7731169ef2db3c429b3b76575e1cda9cc5ed892c50f1b3edd", func := "loop.example/g01142/laws.FnExactTurnLevels", spec := "fnExactTurnLevels", unfollowed := true, recurses := true, leaving := true, apart := false, narrowed := true }
def FnExactTurnLevelsUptoSaid : Prop := fnExactTurnLevelsUptoRow.holds Try.pinned (OpenSpec.upto fnExactTurnLevelsSpec)

/-- 'laws.FnExactLongestFlat', WHERE WHAT IT READS IS OF BULK AT MOST 1048576: true; the input reads as it did. -/
def fnExactLongestFlatUptoRow : OpenClaim := { program := "ytmhdjimdhcephaa", sum := "6a714254cc3d8cb7731169ef2db3c429b3b76575e1cda9cc5ed892c50f1b3edd", func := "loop.example/g01142/laws.FnExactLongestFlat", spec := "fnExactLongestFlat", unfollowed := true, recurses := true, leaving := true, apart := false, narrowed := true }
def FnExactLongestFlatUptoSaid : Prop := fnExactLongestFlatUptoRow.holds Try.pinned (OpenSpec.upto fnExactLongestFlatSpec)

/-- 'laws.FnExactChangesOf', WHERE WHAT IT READS IS OF BULK AT MOST 1048576: true; the input reads as it did. -/
def fnExactChangesOfUptoRow : OpenClaim := { program := "ytmhdjimdhcephaa", sum := "6a714254cc3d8cb7731169ef2db3c429b3b76575e1cda9cc5ed892c50f1b3edd", func := "loop.example/g01142/laws.FnExactChangesOf", spec := "fnExactChangesOf", unfollowed := true, recurses := true, leaving := true, apart := false, narrowed := true }
def FnExactChangesOfUptoSaid : Prop := fnExactChangesOfUptoRow.holds Try.pinned (OpenSpec.upto fnExactChangesOfSpec)

/-- 'laws.FnExactLevelsOf', WHERE WHAT IT READS IS OF BULK AT MOST 1048576: true; the input reads as it did. -/
def fnExactLevelsOfUptoRow : OpenClaim := { program := "ytmhdjimdhcephaa", sum := "6a714254cc3d8cb7731169ef2db3c429b3b76575e1cda9cc5ed892c50f1b3edd", func := "loop.example/g01142/laws.FnExactLevelsOf", spec := "fnExactLevelsOf", unfollowed := true, recurses := true, leaving := true, apart := false, narrowed := true }
def FnExactLevelsOfUptoSaid : Prop := fnExactLevelsOfUptoRow.holds Try.pinned (OpenSpec.upto fnExactLevelsOfSpec)

/-- 'laws.FnExactReadLevels', WHERE WHAT IT READS IS OF BULK AT MOST 1048576: true; the input reads as it did. -/
def fnExactReadLevelsUptoRow : OpenClaim := { program := "ytmhdjimdhcephaa", sum := "6a714254cc3d8cb7731169ef2db3c429b3b76575e1cda9cc5ed892c50f1b3edd", func := "loop.example/g01142/laws.FnExactReadLevels", spec := "fnExactReadLevels", inPlace := ["internal/abi.NoEscape"], unfollowed := true, recurses := true, leaving := true, apart := false, narrowed := true }
def FnExactReadLevelsUptoSaid : Prop := fnExactReadLevelsUptoRow.holds Try.pinned (OpenSpec.upto fnExactReadLevelsSpec)

/-- 'laws.FnExactBitsOfLevels', WHERE WHAT IT READS IS OF BULK AT MOST 1048576: true; the input reads as it did. -/
def fnExactBitsOfLevelsUptoRow : OpenClaim := { program := "ytmhdjimdhcephaa", sum := "6a714254cc3d8cb7731169ef2db3c429b3b76575e1cda9cc5ed892c50f1b3edd", func := "loop.example/g01142/laws.FnExactBitsOfLevels", spec := "fnExactBitsOfLevels", inPlace := ["internal/abi.NoEscape"], unfollowed := true, recurses := true, leaving := true, apart := false, narrowed := true }
def FnExactBitsOfLevelsUptoSaid : Prop := fnExactBitsOfLevelsUptoRow.holds Try.pinned (OpenSpec.upto fnExactBitsOfLevelsSpec)

/-- 'laws.FnExactFirstWrong', WHERE WHAT IT READS IS OF BULK AT MOST 1048576: true; the input reads as it did. -/
def fnExactFirstWrongUptoRow : OpenClaim := { program := "ytmhdjimdhcephaa", sum := "6a714254cc3d8cb7731169ef2db3c429b3b76575e1cda9cc5ed892c50f1b3edd", func := "loop.example/g01142/laws.FnExactFirstWrong", spec := "fnExactFirstWrong", unfollowed := true, recurses := true, leaving := true, apart := false, narrowed := true }
def FnExactFirstWrongUptoSaid : Prop := fnExactFirstWrongUptoRow.holds Try.pinned (OpenSpec.upto fnExactFirstWrongSpec)

/-- 'laws.FnExactWrongBehind', WHERE WHAT IT READS IS OF BULK AT MOST 1048576: true; the input reads as it did. -/
def fnExactWrongBehindUptoRow : OpenClaim := { program := "ytmhdjimdhcephaa", sum := "6a714254cc3d8cb7731169ef2db3c429b3b76575e1cda9cc5ed892c50f1b3edd", func := "loop.example/g01142/laws.FnExactWrongBehind", spec := "fnExactWrongBehind", inPlace := ["internal/abi.NoEscape", "internal/bytealg.CountString", "internal/bytealg.IndexByteString", "internal/bytealg.IndexString"], unfollowed := true, recurses := true, named := ["internal/bytealg.MaxLen"], leaving := true, apart := false, narrowed := true }
def FnExactWrongBehindUptoSaid : Prop := fnExactWrongBehindUptoRow.holds Try.pinned (OpenSpec.upto fnExactWrongBehindSpec)

/-- 'laws.FnExactWorstFlat', WHERE WHAT IT READS IS OF BULK AT MOST 1048576: true; the input reads as it did. -/
def fnExactWorstFlatUptoRow : OpenClaim := { program := "ytmhdjimdhcephaa", sum := "6a714254cc3d8cb7731169ef2db3c429b3b76575e1cda9cc5ed892c50f1b3edd", func := "loop.example/g01142/laws.FnExactWorstFlat", spec := "fnExactWorstFlat", inPlace := ["internal/abi.NoEscape", "internal/bytealg.MakeNoZero", "(*sync.WaitGroup).Add", "internal/race.ReleaseMerge", "internal/race.Disable", "internal/race.Enable", "internal/synctest.IsInBubble", "internal/synctest.Associate[sync.WaitGroup]", "sync.fatal", "sync/atomic.OrUint64", "sync/atomic.AddUint64", "internal/race.Read", "sync/atomic.LoadUint64", "sync/atomic.StoreUint64", "internal/synctest.Disassociate[sync.WaitGroup]", "sync.runtime_Semrelease", "(*sync.WaitGroup).Done", "(*internal/sync.Mutex).Lock", "sync/atomic.CompareAndSwapInt32", "internal/race.Acquire", "(*internal/sync.Mutex).lockSlow", "internal/sync.runtime_canSpin", "internal/sync.runtime_doSpin", "internal/sync.throw", "internal/sync.runtime_nanotime", "internal/sync.runtime_SemacquireMutex", "sync/atomic.AddInt32", "(*internal/sync.Mutex).Unlock", "(*internal/sync.Mutex).unlockSlow", "internal/sync.fatal", "internal/sync.runtime_Semrelease", "(*sync.WaitGroup).Wait", "internal/synctest.IsAssociated[sync.WaitGroup]", "sync/atomic.CompareAndSwapUint64", "internal/race.Write", "sync.runtime_SemacquireWaitGroup"], unfollowed := true, recurses := true, leaving := true, apart := false, calm := true, outside := [.timePasses], narrowed := true }
def FnExactWorstFlatUptoSaid : Prop := fnExactWorstFlatUptoRow.holds Try.pinned (OpenSpec.upto fnExactWorstFlatSpec)

/-- 'laws.FnExactReadLevelsText', WHERE WHAT IT READS IS OF BULK AT MOST 1048576: true; the input reads as it did. -/
def fnExactReadLevelsTextUptoRow : OpenClaim := { program := "ytmhdjimdhcephaa", sum := "6a714254cc3d8cb7731169ef2db3c429b3b76575e1cda9cc5ed892c50f1b3edd", func := "loop.example/g01142/laws.FnExactReadLevelsText", spec := "fnExactReadLevelsText", inPlace := ["internal/bytealg.IndexByteString", "internal/bytealg.IndexString"], unfollowed := true, recurses := true, named := ["internal/bytealg.MaxLen"], leaving := true, apart := false, narrowed := true }
def FnExactReadLevelsTextUptoSaid : Prop := fnExactReadLevelsTextUptoRow.holds Try.pinned (OpenSpec.upto fnExactReadLevelsTextSpec)

/-- 'laws.FnTurnedLevels', WHERE WHAT IT READS IS OF BULK AT MOST 1048576: true; the input reads as it did. -/
def fnTurnedLevelsUptoRow : OpenClaim := { program := "ytmhdjimdhcephaa", sum := "6a714254cc3d8cb7731169ef2db3c429b3b76575e1cda9cc5ed892c50f1b3edd", func := "loop.example/g01142/laws.FnTurnedLevels", spec := "fnTurnedLevels", inPlace := ["internal/abi.NoEscape"], unfollowed := true, recurses := true, leaving := true, apart := false, narrowed := true }
def FnTurnedLevelsUptoSaid : Prop := fnTurnedLevelsUptoRow.holds Try.pinned (OpenSpec.upto fnTurnedLevelsSpec)

/-- 'laws.FnWrongLevels', WHERE WHAT IT READS IS OF BULK AT MOST 1048576: true; the input reads as it did. -/
def fnWrongLevelsUptoRow : OpenClaim := { program := "ytmhdjimdhcephaa", sum := "6a714254cc3d8cb7731169ef2db3c429b3b76575e1cda9cc5ed892c50f1b3edd", func := "loop.example/g01142/laws.FnWrongLevels", spec := "fnWrongLevels", inPlace := ["internal/abi.NoEscape", "internal/bytealg.CountString", "internal/bytealg.IndexByteString", "internal/bytealg.IndexString"], unfollowed := true, recurses := true, named := ["internal/bytealg.MaxLen"], leaving := true, apart := false, narrowed := true }
def FnWrongLevelsUptoSaid : Prop := fnWrongLevelsUptoRow.holds Try.pinned (OpenSpec.upto fnWrongLevelsSpec)

/-- 'laws.FnFlats', WHERE WHAT IT READS IS OF BULK AT MOST 1048576: true; the input reads as it did. -/
def fnFlatsUptoRow : OpenClaim := { program := "ytmhdjimdhcephaa", sum := "6a714254cc3d8cb7731169ef2db3c429b3b76575e1cda9cc5ed892c50f1b3edd", func := "loop.example/g01142/laws.FnFlats", spec := "fnFlats", inPlace := ["internal/abi.NoEscape", "internal/bytealg.MakeNoZero", "(*sync.WaitGroup).Add", "internal/race.ReleaseMerge", "internal/race.Disable", "internal/race.Enable", "internal/synctest.IsInBubble", "internal/synctest.Associate[sync.WaitGroup]", "sync.fatal", "sync/atomic.OrUint64", "sync/atomic.AddUint64", "internal/race.Read", "sync/atomic.LoadUint64", "sync/atomic.StoreUint64", "internal/synctest.Disassociate[sync.WaitGroup]", "sync.runtime_Semrelease", "(*sync.WaitGroup).Done", "(*internal/sync.Mutex).Lock", "sync/atomic.CompareAndSwapInt32", "internal/race.Acquire", "(*internal/sync.Mutex).lockSlow", "internal/sync.runtime_canSpin", "internal/sync.runtime_doSpin", "internal/sync.throw", "internal/sync.runtime_nanotime", "internal/sync.runtime_SemacquireMutex", "sync/atomic.AddInt32", "(*internal/sync.Mutex).Unlock", "(*internal/sync.Mutex).unlockSlow", "internal/sync.fatal", "internal/sync.runtime_Semrelease", "(*sync.WaitGroup).Wait", "internal/synctest.IsAssociated[sync.WaitGroup]", "sync/atomic.CompareAndSwapUint64", "internal/race.Write", "sync.runtime_SemacquireWaitGroup"], unfollowed := true, recurses := true, leaving := true, apart := false, calm := true, outside := [.timePasses], narrowed := true }
def FnFlatsUptoSaid : Prop := fnFlatsUptoRow.holds Try.pinned (OpenSpec.upto fnFlatsSpec)

end Rows
end Go.Proofs.Ytmhdjimdhcephaa
