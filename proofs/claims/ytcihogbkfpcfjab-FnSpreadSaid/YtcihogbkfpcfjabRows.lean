/-
  No cell of these rows narrows 'for every input' (looked for: loops, veiled, ifaces, maps, wideKeys, modest, calm, conditions, laid).
  DERIVED. THE GIVEN ROWS OF THIS SEAT. 11 by the template 'for every input the law returns true; each argument reads behind the call as it read before'; 0 by the template 'total and deterministic' (their statements: YtcihogbkfpcfjabTotals.lean).
  GIVEN WITH THE SEED: the statements are not yours to turn. If you find one false, say at which input.
  Laid BY PROGRAM, IN A SANDBOX (cutbox-rows.mjs): the forced cells as the released guide's own fill.sh prints them over the translation f9bef4f82d6b2c49… (all of the seat's roots in one cut). By AI agents, Wed Nov 11 2026. No macro, syntax, notation, axiom, sorry.
-/
import Derived.Test.YtcihogbkfpcfjabChecked
import GoSem.Claim
import GoSem.ClaimJoined
import GoSem.ClaimMapViews
import Derived.JoinedTies
import Derived.KernelRfl
namespace Go.Proofs.Ytcihogbkfpcfjab
/- THE CELL 'sum', in the pinned program and in every row, IS THE sha256 OF THE DUMP (.gsa) THAT YtcihogbkfpcfjabProg.lean LOADS. Nothing in Lean hashes anything: it is a label: what it is worth is what the hold of that sum in a sandbox is worth. -/
noncomputable def Try.pinned : Pinned := { name := "ytcihogbkfpcfjab", sum := "f9bef4f82d6b2c499402a295e8a84e784567c5c1b8e5efcf9f26cb56a2869ad2", checked := Try.checked }
namespace Rows
def none {H : Type} : Left H := { results := [], args := [] }

/-- 'laws.FnExactEdgesOf': WHATEVER THE INPUT: true; the input reads as it did. -/
def fnExactEdgesOfSpec : ChangeSpec := { name := "fnExactEdgesOf", fn := fun _ => fun
  | [d] => { results := [.lit (.bool true)], args := [d] }
  | _ => none }
def fnExactEdgesOfRow : OpenClaim := { program := "ytcihogbkfpcfjab", sum := "f9bef4f82d6b2c499402a295e8a84e784567c5c1b8e5efcf9f26cb56a2869ad2", func := "loop.example/g01142/laws.FnExactEdgesOf", spec := "fnExactEdgesOf", apart := false }
def FnExactEdgesOfSaid : Prop := fnExactEdgesOfRow.holds Try.pinned (OpenSpec.ofChange fnExactEdgesOfSpec)

/-- ITS FALSE NEIGHBOUR: 'it returns false'. Refute it at one input. -/
def fnExactEdgesOfWrong : ChangeSpec := { name := "fnExactEdgesOf", fn := fun _ => fun
  | [d] => { results := [.lit (.bool false)], args := [d] }
  | _ => none }
def FnExactEdgesOfWrongFalsely : Prop := fnExactEdgesOfRow.holds Try.pinned (OpenSpec.ofChange fnExactEdgesOfWrong)

/-- 'laws.FnExactReceiveBits': WHATEVER THE INPUT: true; the input reads as it did. -/
def fnExactReceiveBitsSpec : ChangeSpec := { name := "fnExactReceiveBits", fn := fun _ => fun
  | [d1, d2, d3, d4] => { results := [.lit (.bool true)], args := [d1, d2, d3, d4] }
  | _ => none }
def fnExactReceiveBitsRow : OpenClaim := { program := "ytcihogbkfpcfjab", sum := "f9bef4f82d6b2c499402a295e8a84e784567c5c1b8e5efcf9f26cb56a2869ad2", func := "loop.example/g01142/laws.FnExactReceiveBits", spec := "fnExactReceiveBits", inPlace := ["(*sync.WaitGroup).Go", "(*sync.WaitGroup).Add", "internal/race.ReleaseMerge", "internal/race.Disable", "internal/race.Enable", "internal/synctest.IsInBubble", "internal/synctest.Associate[sync.WaitGroup]", "sync.fatal", "sync/atomic.OrUint64", "sync/atomic.AddUint64", "internal/race.Read", "sync/atomic.LoadUint64", "sync/atomic.StoreUint64", "internal/synctest.Disassociate[sync.WaitGroup]", "sync.runtime_Semrelease", "(*sync.WaitGroup).Go$1", "(*sync.WaitGroup).Go$1$1", "(*sync.WaitGroup).Done", "internal/abi.NoEscape", "(*sync.WaitGroup).Wait", "internal/race.Acquire", "internal/synctest.IsAssociated[sync.WaitGroup]", "sync/atomic.CompareAndSwapUint64", "internal/race.Write", "sync.runtime_SemacquireWaitGroup"], unfollowed := true, recurses := true, leaving := true, apart := false }
def FnExactReceiveBitsSaid : Prop := fnExactReceiveBitsRow.holds Try.pinned (OpenSpec.ofChange fnExactReceiveBitsSpec)

/-- ITS FALSE NEIGHBOUR: 'it returns false'. Refute it at one input. -/
def fnExactReceiveBitsWrong : ChangeSpec := { name := "fnExactReceiveBits", fn := fun _ => fun
  | [d1, d2, d3, d4] => { results := [.lit (.bool false)], args := [d1, d2, d3, d4] }
  | _ => none }
def FnExactReceiveBitsWrongFalsely : Prop := fnExactReceiveBitsRow.holds Try.pinned (OpenSpec.ofChange fnExactReceiveBitsWrong)

/-- 'laws.FnSampled': WHATEVER THE INPUT: true; the input reads as it did. -/
def fnSampledSpec : ChangeSpec := { name := "fnSampled", fn := fun _ => fun
  | [d1, d2] => { results := [.lit (.bool true)], args := [d1, d2] }
  | _ => none }
def fnSampledRow : OpenClaim := { program := "ytcihogbkfpcfjab", sum := "f9bef4f82d6b2c499402a295e8a84e784567c5c1b8e5efcf9f26cb56a2869ad2", func := "loop.example/g01142/laws.FnSampled", spec := "fnSampled", inPlace := ["(*sync.WaitGroup).Go", "(*sync.WaitGroup).Add", "internal/race.ReleaseMerge", "internal/race.Disable", "internal/race.Enable", "internal/synctest.IsInBubble", "internal/synctest.Associate[sync.WaitGroup]", "sync.fatal", "sync/atomic.OrUint64", "sync/atomic.AddUint64", "internal/race.Read", "sync/atomic.LoadUint64", "sync/atomic.StoreUint64", "internal/synctest.Disassociate[sync.WaitGroup]", "sync.runtime_Semrelease", "(*sync.WaitGroup).Go$1", "(*sync.WaitGroup).Go$1$1", "(*sync.WaitGroup).Done", "internal/abi.NoEscape", "(*sync.WaitGroup).Wait", "internal/race.Acquire", "internal/synctest.IsAssociated[sync.WaitGroup]", "sync/atomic.CompareAndSwapUint64", "internal/race.Write", "sync.runtime_SemacquireWaitGroup"], unfollowed := true, recurses := true, leaving := true, apart := false }
def FnSampledSaid : Prop := fnSampledRow.holds Try.pinned (OpenSpec.ofChange fnSampledSpec)

/-- ITS FALSE NEIGHBOUR: 'it returns false'. Refute it at one input. -/
def fnSampledWrong : ChangeSpec := { name := "fnSampled", fn := fun _ => fun
  | [d1, d2] => { results := [.lit (.bool false)], args := [d1, d2] }
  | _ => none }
def FnSampledWrongFalsely : Prop := fnSampledRow.holds Try.pinned (OpenSpec.ofChange fnSampledWrong)

/-- 'laws.FnKeys': WHATEVER THE INPUT: true; the input reads as it did. -/
def fnKeysSpec : ChangeSpec := { name := "fnKeys", fn := fun _ => fun
  | [d1, d2] => { results := [.lit (.bool true)], args := [d1, d2] }
  | _ => none }
def fnKeysRow : OpenClaim := { program := "ytcihogbkfpcfjab", sum := "f9bef4f82d6b2c499402a295e8a84e784567c5c1b8e5efcf9f26cb56a2869ad2", func := "loop.example/g01142/laws.FnKeys", spec := "fnKeys", inPlace := ["internal/abi.NoEscape", "internal/bytealg.MakeNoZero"], unfollowed := true, recurses := true, leaving := true, apart := false }
def FnKeysSaid : Prop := fnKeysRow.holds Try.pinned (OpenSpec.ofChange fnKeysSpec)

/-- ITS FALSE NEIGHBOUR: 'it returns false'. Refute it at one input. -/
def fnKeysWrong : ChangeSpec := { name := "fnKeys", fn := fun _ => fun
  | [d1, d2] => { results := [.lit (.bool false)], args := [d1, d2] }
  | _ => none }
def FnKeysWrongFalsely : Prop := fnKeysRow.holds Try.pinned (OpenSpec.ofChange fnKeysWrong)

/-- 'laws.FnExactErrorsBehind': WHATEVER THE INPUT: true; the input reads as it did. -/
def fnExactErrorsBehindSpec : ChangeSpec := { name := "fnExactErrorsBehind", fn := fun _ => fun
  | [d1, d2] => { results := [.lit (.bool true)], args := [d1, d2] }
  | _ => none }
def fnExactErrorsBehindRow : OpenClaim := { program := "ytcihogbkfpcfjab", sum := "f9bef4f82d6b2c499402a295e8a84e784567c5c1b8e5efcf9f26cb56a2869ad2", func := "loop.example/g01142/laws.FnExactErrorsBehind", spec := "fnExactErrorsBehind", inPlace := ["internal/abi.NoEscape", "internal/bytealg.MakeNoZero"], apart := false }
def FnExactErrorsBehindSaid : Prop := fnExactErrorsBehindRow.holds Try.pinned (OpenSpec.ofChange fnExactErrorsBehindSpec)

/-- ITS FALSE NEIGHBOUR: 'it returns false'. Refute it at one input. -/
def fnExactErrorsBehindWrong : ChangeSpec := { name := "fnExactErrorsBehind", fn := fun _ => fun
  | [d1, d2] => { results := [.lit (.bool false)], args := [d1, d2] }
  | _ => none }
def FnExactErrorsBehindWrongFalsely : Prop := fnExactErrorsBehindRow.holds Try.pinned (OpenSpec.ofChange fnExactErrorsBehindWrong)

/-- 'laws.FnSpread': WHATEVER THE INPUT: true; the input reads as it did. -/
def fnSpreadSpec : ChangeSpec := { name := "fnSpread", fn := fun _ => fun
  | [d1, d2] => { results := [.lit (.bool true)], args := [d1, d2] }
  | _ => none }
def fnSpreadRow : OpenClaim := { program := "ytcihogbkfpcfjab", sum := "f9bef4f82d6b2c499402a295e8a84e784567c5c1b8e5efcf9f26cb56a2869ad2", func := "loop.example/g01142/laws.FnSpread", spec := "fnSpread", inPlace := ["internal/abi.NoEscape", "internal/bytealg.MakeNoZero"], unfollowed := true, recurses := true, leaving := true, apart := false }
def FnSpreadSaid : Prop := fnSpreadRow.holds Try.pinned (OpenSpec.ofChange fnSpreadSpec)

/-- ITS FALSE NEIGHBOUR: 'it returns false'. Refute it at one input. -/
def fnSpreadWrong : ChangeSpec := { name := "fnSpread", fn := fun _ => fun
  | [d1, d2] => { results := [.lit (.bool false)], args := [d1, d2] }
  | _ => none }
def FnSpreadWrongFalsely : Prop := fnSpreadRow.holds Try.pinned (OpenSpec.ofChange fnSpreadWrong)

/-- 'laws.FnExactMakeBlockCode': WHATEVER THE INPUT: true; the input reads as it did. -/
def fnExactMakeBlockCodeSpec : ChangeSpec := { name := "fnExactMakeBlockCode", fn := fun _ => fun
  | [d1, d2] => { results := [.lit (.bool true)], args := [d1, d2] }
  | _ => none }
def fnExactMakeBlockCodeRow : OpenClaim := { program := "ytcihogbkfpcfjab", sum := "f9bef4f82d6b2c499402a295e8a84e784567c5c1b8e5efcf9f26cb56a2869ad2", func := "loop.example/g01142/laws.FnExactMakeBlockCode", spec := "fnExactMakeBlockCode", inPlace := ["internal/abi.NoEscape", "internal/bytealg.MakeNoZero", "internal/bytealg.CountString", "internal/bytealg.IndexByteString", "internal/bytealg.IndexString"], named := ["internal/bytealg.MaxLen"], apart := false }
def FnExactMakeBlockCodeSaid : Prop := fnExactMakeBlockCodeRow.holds Try.pinned (OpenSpec.ofChange fnExactMakeBlockCodeSpec)

/-- ITS FALSE NEIGHBOUR: 'it returns false'. Refute it at one input. -/
def fnExactMakeBlockCodeWrong : ChangeSpec := { name := "fnExactMakeBlockCode", fn := fun _ => fun
  | [d1, d2] => { results := [.lit (.bool false)], args := [d1, d2] }
  | _ => none }
def FnExactMakeBlockCodeWrongFalsely : Prop := fnExactMakeBlockCodeRow.holds Try.pinned (OpenSpec.ofChange fnExactMakeBlockCodeWrong)

/-- 'laws.FnExactCanonicalWords': WHATEVER THE INPUT: true; the input reads as it did. -/
def fnExactCanonicalWordsSpec : ChangeSpec := { name := "fnExactCanonicalWords", fn := fun _ => fun
  | [d] => { results := [.lit (.bool true)], args := [d] }
  | _ => none }
def fnExactCanonicalWordsRow : OpenClaim := { program := "ytcihogbkfpcfjab", sum := "f9bef4f82d6b2c499402a295e8a84e784567c5c1b8e5efcf9f26cb56a2869ad2", func := "loop.example/g01142/laws.FnExactCanonicalWords", spec := "fnExactCanonicalWords", unfollowed := true, recurses := true, leaving := true, apart := false }
def FnExactCanonicalWordsSaid : Prop := fnExactCanonicalWordsRow.holds Try.pinned (OpenSpec.ofChange fnExactCanonicalWordsSpec)

/-- ITS FALSE NEIGHBOUR: 'it returns false'. Refute it at one input. -/
def fnExactCanonicalWordsWrong : ChangeSpec := { name := "fnExactCanonicalWords", fn := fun _ => fun
  | [d] => { results := [.lit (.bool false)], args := [d] }
  | _ => none }
def FnExactCanonicalWordsWrongFalsely : Prop := fnExactCanonicalWordsRow.holds Try.pinned (OpenSpec.ofChange fnExactCanonicalWordsWrong)

/-- 'laws.FnExactRunBound': WHATEVER THE INPUT: true; the input reads as it did. -/
def fnExactRunBoundSpec : ChangeSpec := { name := "fnExactRunBound", fn := fun _ => fun
  | [d] => { results := [.lit (.bool true)], args := [d] }
  | _ => none }
def fnExactRunBoundRow : OpenClaim := { program := "ytcihogbkfpcfjab", sum := "f9bef4f82d6b2c499402a295e8a84e784567c5c1b8e5efcf9f26cb56a2869ad2", func := "loop.example/g01142/laws.FnExactRunBound", spec := "fnExactRunBound", inPlace := ["internal/bytealg.CountString", "internal/bytealg.IndexByteString", "internal/bytealg.IndexString"], unfollowed := true, recurses := true, named := ["internal/bytealg.MaxLen"], leaving := true, apart := false }
def FnExactRunBoundSaid : Prop := fnExactRunBoundRow.holds Try.pinned (OpenSpec.ofChange fnExactRunBoundSpec)

/-- ITS FALSE NEIGHBOUR: 'it returns false'. Refute it at one input. -/
def fnExactRunBoundWrong : ChangeSpec := { name := "fnExactRunBound", fn := fun _ => fun
  | [d] => { results := [.lit (.bool false)], args := [d] }
  | _ => none }
def FnExactRunBoundWrongFalsely : Prop := fnExactRunBoundRow.holds Try.pinned (OpenSpec.ofChange fnExactRunBoundWrong)

/-- 'laws.FnExactAddFractions': WHATEVER THE INPUT: true; the input reads as it did. -/
def fnExactAddFractionsSpec : ChangeSpec := { name := "fnExactAddFractions", fn := fun _ => fun
  | [d1, d2] => { results := [.lit (.bool true)], args := [d1, d2] }
  | _ => none }
def fnExactAddFractionsRow : OpenClaim := { program := "ytcihogbkfpcfjab", sum := "f9bef4f82d6b2c499402a295e8a84e784567c5c1b8e5efcf9f26cb56a2869ad2", func := "loop.example/g01142/laws.FnExactAddFractions", spec := "fnExactAddFractions", inPlace := ["math/bits.Sub64", "math/bits.Add64"], named := ["math/bits.divideError", "math/bits.overflowError"], apart := false }
def FnExactAddFractionsSaid : Prop := fnExactAddFractionsRow.holds Try.pinned (OpenSpec.ofChange fnExactAddFractionsSpec)

/-- ITS FALSE NEIGHBOUR: 'it returns false'. Refute it at one input. -/
def fnExactAddFractionsWrong : ChangeSpec := { name := "fnExactAddFractions", fn := fun _ => fun
  | [d1, d2] => { results := [.lit (.bool false)], args := [d1, d2] }
  | _ => none }
def FnExactAddFractionsWrongFalsely : Prop := fnExactAddFractionsRow.holds Try.pinned (OpenSpec.ofChange fnExactAddFractionsWrong)

/-- 'laws.FnExactSubFractions': WHATEVER THE INPUT: true; the input reads as it did. -/
def fnExactSubFractionsSpec : ChangeSpec := { name := "fnExactSubFractions", fn := fun _ => fun
  | [d1, d2] => { results := [.lit (.bool true)], args := [d1, d2] }
  | _ => none }
def fnExactSubFractionsRow : OpenClaim := { program := "ytcihogbkfpcfjab", sum := "f9bef4f82d6b2c499402a295e8a84e784567c5c1b8e5efcf9f26cb56a2869ad2", func := "loop.example/g01142/laws.FnExactSubFractions", spec := "fnExactSubFractions", inPlace := ["math/bits.Sub64", "math/bits.Add64"], named := ["math/bits.divideError", "math/bits.overflowError"], apart := false }
def FnExactSubFractionsSaid : Prop := fnExactSubFractionsRow.holds Try.pinned (OpenSpec.ofChange fnExactSubFractionsSpec)

/-- ITS FALSE NEIGHBOUR: 'it returns false'. Refute it at one input. -/
def fnExactSubFractionsWrong : ChangeSpec := { name := "fnExactSubFractions", fn := fun _ => fun
  | [d1, d2] => { results := [.lit (.bool false)], args := [d1, d2] }
  | _ => none }
def FnExactSubFractionsWrongFalsely : Prop := fnExactSubFractionsRow.holds Try.pinned (OpenSpec.ofChange fnExactSubFractionsWrong)

/- THE SECOND FORM. 'bulk': how many values and letters a reading holds, each counted each time it is reached (what is shared counts as often as it is met; a slice's spare places count too). A statement '..UptoSaid' is the law's where the arguments, and the package variables that the reading takes, are together of bulk at most 1048576: NARROWER than '..Said'. Prove '..Said' where nothing that the law and all that it calls make is longer than what came in: it says more and counts as full. Else prove '..UptoSaid'. A law counts once. -/
mutual
def uptoBulk {H : Type} : DataW H → Nat
  | .lit (.string bytes) => bytes.length + 1
  | .lit _ => 1
  | .nil => 1
  | .ptr d => uptoBulk d + 1
  | .slice elems spare => uptoBulkAll elems + uptoBulkAll spare + 1
  | .agg parts => uptoBulkAll parts + 1
  | .iface _ d => uptoBulk d + 1
  | .map entries => uptoBulkEntries entries + 1
  | .held _ => 1
def uptoBulkAll {H : Type} : List (DataW H) → Nat
  | [] => 0
  | d :: r => uptoBulk d + uptoBulkAll r
def uptoBulkEntries {H : Type} : List (Lit × DataW H) → Nat
  | [] => 0
  | x :: r => uptoBulkEntry x + uptoBulkEntries r
def uptoBulkEntry {H : Type} : Lit × DataW H → Nat
  | (.string bytes, d) => bytes.length + uptoBulk d + 1
  | (_, d) => uptoBulk d + 1
 end
def uptoSmall : (H : Type) → List (DataW H) → Bool := fun _ ds => decide (uptoBulkAll ds ≤ 1048576)
def OpenSpec.upto (s : _root_.Go.ChangeSpec) : _root_.Go.OpenSpec := { _root_.Go.OpenSpec.ofChange s with cond := some uptoSmall }

/-- 'laws.FnExactEdgesOf', WHERE WHAT IT READS IS OF BULK AT MOST 1048576: true; the input reads as it did. -/
def fnExactEdgesOfUptoRow : OpenClaim := { program := "ytcihogbkfpcfjab", sum := "f9bef4f82d6b2c499402a295e8a84e784567c5c1b8e5efcf9f26cb56a2869ad2", func := "loop.example/g01142/laws.FnExactEdgesOf", spec := "fnExactEdgesOf", apart := false, narrowed := true }
def FnExactEdgesOfUptoSaid : Prop := fnExactEdgesOfUptoRow.holds Try.pinned (OpenSpec.upto fnExactEdgesOfSpec)

/-- 'laws.FnExactReceiveBits', WHERE WHAT IT READS IS OF BULK AT MOST 1048576: true; the input reads as it did. -/
def fnExactReceiveBitsUptoRow : OpenClaim := { program := "ytcihogbkfpcfjab", sum := "f9bef4f82d6b2c499402a295e8a84e784567c5c1b8e5efcf9f26cb56a2869ad2", func := "loop.example/g01142/laws.FnExactReceiveBits", spec := "fnExactReceiveBits", inPlace := ["(*sync.WaitGroup).Go", "(*sync.WaitGroup).Add", "internal/race.ReleaseMerge", "internal/race.Disable", "internal/race.Enable", "internal/synctest.IsInBubble", "internal/synctest.Associate[sync.WaitGroup]", "sync.fatal", "sync/atomic.OrUint64", "sync/atomic.AddUint64", "internal/race.Read", "sync/atomic.LoadUint64", "sync/atomic.StoreUint64", "internal/synctest.Disassociate[sync.WaitGroup]", "sync.runtime_Semrelease", "(*sync.WaitGroup).Go$1", "(*sync.WaitGroup).Go$1$1", "(*sync.WaitGroup).Done", "internal/abi.NoEscape", "(*sync.WaitGroup).Wait", "internal/race.Acquire", "internal/synctest.IsAssociated[sync.WaitGroup]", "sync/atomic.CompareAndSwapUint64", "internal/race.Write", "sync.runtime_SemacquireWaitGroup"], unfollowed := true, recurses := true, leaving := true, apart := false, narrowed := true }
def FnExactReceiveBitsUptoSaid : Prop := fnExactReceiveBitsUptoRow.holds Try.pinned (OpenSpec.upto fnExactReceiveBitsSpec)

/-- 'laws.FnSampled', WHERE WHAT IT READS IS OF BULK AT MOST 1048576: true; the input reads as it did. -/
def fnSampledUptoRow : OpenClaim := { program := "ytcihogbkfpcfjab", sum := "f9bef4f82d6b2c499402a295e8a84e784567c5c1b8e5efcf9f26cb56a2869ad2", func := "loop.example/g01142/laws.FnSampled", spec := "fnSampled", inPlace := ["(*sync.WaitGroup).Go", "(*sync.WaitGroup).Add", "internal/race.ReleaseMerge", "internal/race.Disable", "internal/race.Enable", "internal/synctest.IsInBubble", "internal/synctest.Associate[sync.WaitGroup]", "sync.fatal", "sync/atomic.OrUint64", "sync/atomic.AddUint64", "internal/race.Read", "sync/atomic.LoadUint64", "sync/atomic.StoreUint64", "internal/synctest.Disassociate[sync.WaitGroup]", "sync.runtime_Semrelease", "(*sync.WaitGroup).Go$1", "(*sync.WaitGroup).Go$1$1", "(*sync.WaitGroup).Done", "internal/abi.NoEscape", "(*sync.WaitGroup).Wait", "internal/race.Acquire", "internal/synctest.IsAssociated[sync.WaitGroup]", "sync/atomic.CompareAndSwapUint64", "internal/race.Write", "sync.runtime_SemacquireWaitGroup"], unfollowed := true, recurses := true, leaving := true, apart := false, narrowed := true }
def FnSampledUptoSaid : Prop := fnSampledUptoRow.holds Try.pinned (OpenSpec.upto fnSampledSpec)

/-- 'laws.FnKeys', WHERE WHAT IT READS IS OF BULK AT MOST 1048576: true; the input reads as it did. -/
def fnKeysUptoRow : OpenClaim := { program := "ytcihogbkfpcfjab", sum := "f9bef4f82d6b2c499402a295e8a84e784567c5c1b8e5efcf9f26cb56a2869ad2", func := "loop.example/g01142/laws.FnKeys", spec := "fnKeys", inPlace := ["internal/abi.NoEscape", "internal/bytealg.MakeNoZero"], unfollowed := true, recurses := true, leaving := true, apart := false, narrowed := true }
def FnKeysUptoSaid : Prop := fnKeysUptoRow.holds Try.pinned (OpenSpec.upto fnKeysSpec)

/-- 'laws.FnExactErrorsBehind', WHERE WHAT IT READS IS OF BULK AT MOST 1048576: true; the input reads as it did. -/
def fnExactErrorsBehindUptoRow : OpenClaim := { program := "ytcihogbkfpcfjab", sum := "f9bef4f82d6b2c499402a295e8a84e784567c5c1b8e5efcf9f26cb56a2869ad2", func := "loop.example/g01142/laws.FnExactErrorsBehind", spec := "fnExactErrorsBehind", inPlace := ["internal/abi.NoEscape", "internal/bytealg.MakeNoZero"], apart := false, narrowed := true }
def FnExactErrorsBehindUptoSaid : Prop := fnExactErrorsBehindUptoRow.holds Try.pinned (OpenSpec.upto fnExactErrorsBehindSpec)

/-- 'laws.FnSpread', WHERE WHAT IT READS IS OF BULK AT MOST 1048576: true; the input reads as it did. -/
def fnSpreadUptoRow : OpenClaim := { program := "ytcihogbkfpcfjab", sum := "f9bef4f82d6b2c499402a295e8a84e784567c5c1b8e5efcf9f26cb56a2869ad2", func := "loop.example/g01142/laws.FnSpread", spec := "fnSpread", inPlace := ["internal/abi.NoEscape", "internal/bytealg.MakeNoZero"], unfollowed := true, recurses := true, leaving := true, apart := false, narrowed := true }
def FnSpreadUptoSaid : Prop := fnSpreadUptoRow.holds Try.pinned (OpenSpec.upto fnSpreadSpec)

/-- 'laws.FnExactMakeBlockCode', WHERE WHAT IT READS IS OF BULK AT MOST 1048576: true; the input reads as it did. -/
def fnExactMakeBlockCodeUptoRow : OpenClaim := { program := "ytcihogbkfpcfjab", sum := "f9bef4f82d6b2c499402a295e8a84e784567c5c1b8e5efcf9f26cb56a2869ad2", func := "loop.example/g01142/laws.FnExactMakeBlockCode", spec := "fnExactMakeBlockCode", inPlace := ["internal/abi.NoEscape", "internal/bytealg.MakeNoZero", "internal/bytealg.CountString", "internal/bytealg.IndexByteString", "internal/bytealg.IndexString"], named := ["internal/bytealg.MaxLen"], apart := false, narrowed := true }
def FnExactMakeBlockCodeUptoSaid : Prop := fnExactMakeBlockCodeUptoRow.holds Try.pinned (OpenSpec.upto fnExactMakeBlockCodeSpec)

/-- 'laws.FnExactCanonicalWords', WHERE WHAT IT READS IS OF BULK AT MOST 1048576: true; the input reads as it did. -/
def fnExactCanonicalWordsUptoRow : OpenClaim := { program := "ytcihogbkfpcfjab", sum := "f9bef4f82d6b2c499402a295e8a84e784567c5c1b8e5efcf9f26cb56a2869ad2", func := "loop.example/g01142/laws.FnExactCanonicalWords", spec := "fnExactCanonicalWords", unfollowed := true, recurses := true, leaving := true, apart := false, narrowed := true }
def FnExactCanonicalWordsUptoSaid : Prop := fnExactCanonicalWordsUptoRow.holds Try.pinned (OpenSpec.upto fnExactCanonicalWordsSpec)

/-- 'laws.FnExactRunBound', WHERE WHAT IT READS IS OF BULK AT MOST 1048576: true; the input reads as it did. -/
def fnExactRunBoundUptoRow : OpenClaim := { program := "ytcihogbkfpcfjab", sum := "f9bef4f82d6b2c499402a295e8a84e784567c5c1b8e5efcf9f26cb56a2869ad2", func := "loop.example/g01142/laws.FnExactRunBound", spec := "fnExactRunBound", inPlace := ["internal/bytealg.CountString", "internal/bytealg.IndexByteString", "internal/bytealg.IndexString"], unfollowed := true, recurses := true, named := ["internal/bytealg.MaxLen"], leaving := true, apart := false, narrowed := true }
def FnExactRunBoundUptoSaid : Prop := fnExactRunBoundUptoRow.holds Try.pinned (OpenSpec.upto fnExactRunBoundSpec)

/-- 'laws.FnExactAddFractions', WHERE WHAT IT READS IS OF BULK AT MOST 1048576: true; the input reads as it did. -/
def fnExactAddFractionsUptoRow : OpenClaim := { program := "ytcihogbkfpcfjab", sum := "f9bef4f82d6b2c499402a295e8a84e784567c5c1b8e5efcf9f26cb56a2869ad2", func := "loop.example/g01142/laws.FnExactAddFractions", spec := "fnExactAddFractions", inPlace := ["math/bits.Sub64", "math/bits.Add64"], named := ["math/bits.divideError", "math/bits.overflowError"], apart := false, narrowed := true }
def FnExactAddFractionsUptoSaid : Prop := fnExactAddFractionsUptoRow.holds Try.pinned (OpenSpec.upto fnExactAddFractionsSpec)

/-- 'laws.FnExactSubFractions', WHERE WHAT IT READS IS OF BULK AT MOST 1048576: true; the input reads as it did. -/
def fnExactSubFractionsUptoRow : OpenClaim := { program := "ytcihogbkfpcfjab", sum := "f9bef4f82d6b2c499402a295e8a84e784567c5c1b8e5efcf9f26cb56a2869ad2", func := "loop.example/g01142/laws.FnExactSubFractions", spec := "fnExactSubFractions", inPlace := ["math/bits.Sub64", "math/bits.Add64"], named := ["math/bits.divideError", "math/bits.overflowError"], apart := false, narrowed := true }
def FnExactSubFractionsUptoSaid : Prop := fnExactSubFractionsUptoRow.holds Try.pinned (OpenSpec.upto fnExactSubFractionsSpec)

end Rows
end Go.Proofs.Ytcihogbkfpcfjab
