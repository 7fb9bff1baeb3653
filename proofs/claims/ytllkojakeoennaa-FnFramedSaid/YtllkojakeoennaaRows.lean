/-
  No cell of these rows narrows 'for every input' (looked for: loops, veiled, ifaces, maps, wideKeys, modest, calm, conditions, laid).
  DERIVED. THE GIVEN ROWS OF THIS SEAT. 11 by the template 'for every input the law returns true; each argument reads behind the call as it read before'; 0 by the template 'total and deterministic' (their statements: YtllkojakeoennaaTotals.lean).
  GIVEN WITH THE SEED: the statements are not yours to turn. If you find one false, say at which input.
  Laid BY PROGRAM, IN A SANDBOX (cutbox-rows.mjs): the forced cells as the released guide's own fill.sh prints them over the translation 98517649fd27fddb… (all of the seat's roots in one cut). By AI agents, Wed Nov 11 2026. No macro, syntax, notation, axiom, sorry.
-/
import Derived.Test.YtllkojakeoennaaChecked
import GoSem.Claim
import GoSem.ClaimJoined
import GoSem.ClaimMapViews
import Derived.JoinedTies
import Derived.KernelRfl
namespace Go.Proofs.Ytllkojakeoennaa
/- THE CELL 'sum', in the pinned program and in every row, IS THE sha256 OF THE DUMP (.gsa) THAT YtllkojakeoennaaProg.lean LOADS. Nothing in Lean hashes anything: it is a label: what it is worth is what the hold of that sum in a sandbox is worth. -/
noncomputable def Try.pinned : Pinned := { name := "ytllkojakeoennaa", sum := "98517649fd27fddb17808550e7446afe18f922ed0827d12fc9c6cbc97b5861be", checked := Try.checked }
namespace Rows
def none {H : Type} : Left H := { results := [], args := [] }

/-- 'laws.FnExactValidStuffer': WHATEVER THE INPUT: true; the input reads as it did. -/
def fnExactValidStufferSpec : ChangeSpec := { name := "fnExactValidStuffer", fn := fun _ => fun
  | [d] => { results := [.lit (.bool true)], args := [d] }
  | _ => none }
def fnExactValidStufferRow : OpenClaim := { program := "ytllkojakeoennaa", sum := "98517649fd27fddb17808550e7446afe18f922ed0827d12fc9c6cbc97b5861be", func := "loop.example/g01142/laws.FnExactValidStuffer", spec := "fnExactValidStuffer", apart := false }
def FnExactValidStufferSaid : Prop := fnExactValidStufferRow.holds Try.pinned (OpenSpec.ofChange fnExactValidStufferSpec)

/-- ITS FALSE NEIGHBOUR: 'it returns false'. Refute it at one input. -/
def fnExactValidStufferWrong : ChangeSpec := { name := "fnExactValidStuffer", fn := fun _ => fun
  | [d] => { results := [.lit (.bool false)], args := [d] }
  | _ => none }
def FnExactValidStufferWrongFalsely : Prop := fnExactValidStufferRow.holds Try.pinned (OpenSpec.ofChange fnExactValidStufferWrong)

/-- 'laws.FnExactStuffBits': WHATEVER THE INPUT: true; the input reads as it did. -/
def fnExactStuffBitsSpec : ChangeSpec := { name := "fnExactStuffBits", fn := fun _ => fun
  | [d1, d2] => { results := [.lit (.bool true)], args := [d1, d2] }
  | _ => none }
def fnExactStuffBitsRow : OpenClaim := { program := "ytllkojakeoennaa", sum := "98517649fd27fddb17808550e7446afe18f922ed0827d12fc9c6cbc97b5861be", func := "loop.example/g01142/laws.FnExactStuffBits", spec := "fnExactStuffBits", inPlace := ["internal/abi.NoEscape"], apart := false }
def FnExactStuffBitsSaid : Prop := fnExactStuffBitsRow.holds Try.pinned (OpenSpec.ofChange fnExactStuffBitsSpec)

/-- ITS FALSE NEIGHBOUR: 'it returns false'. Refute it at one input. -/
def fnExactStuffBitsWrong : ChangeSpec := { name := "fnExactStuffBits", fn := fun _ => fun
  | [d1, d2] => { results := [.lit (.bool false)], args := [d1, d2] }
  | _ => none }
def FnExactStuffBitsWrongFalsely : Prop := fnExactStuffBitsRow.holds Try.pinned (OpenSpec.ofChange fnExactStuffBitsWrong)

/-- 'laws.FnExactUnstuffBits': WHATEVER THE INPUT: true; the input reads as it did. -/
def fnExactUnstuffBitsSpec : ChangeSpec := { name := "fnExactUnstuffBits", fn := fun _ => fun
  | [d1, d2] => { results := [.lit (.bool true)], args := [d1, d2] }
  | _ => none }
def fnExactUnstuffBitsRow : OpenClaim := { program := "ytllkojakeoennaa", sum := "98517649fd27fddb17808550e7446afe18f922ed0827d12fc9c6cbc97b5861be", func := "loop.example/g01142/laws.FnExactUnstuffBits", spec := "fnExactUnstuffBits", inPlace := ["internal/abi.NoEscape"], apart := false }
def FnExactUnstuffBitsSaid : Prop := fnExactUnstuffBitsRow.holds Try.pinned (OpenSpec.ofChange fnExactUnstuffBitsSpec)

/-- ITS FALSE NEIGHBOUR: 'it returns false'. Refute it at one input. -/
def fnExactUnstuffBitsWrong : ChangeSpec := { name := "fnExactUnstuffBits", fn := fun _ => fun
  | [d1, d2] => { results := [.lit (.bool false)], args := [d1, d2] }
  | _ => none }
def FnExactUnstuffBitsWrongFalsely : Prop := fnExactUnstuffBitsRow.holds Try.pinned (OpenSpec.ofChange fnExactUnstuffBitsWrong)

/-- 'laws.FnExactFlagOf': WHATEVER THE INPUT: true; the input reads as it did. -/
def fnExactFlagOfSpec : ChangeSpec := { name := "fnExactFlagOf", fn := fun _ => fun
  | [d] => { results := [.lit (.bool true)], args := [d] }
  | _ => none }
def fnExactFlagOfRow : OpenClaim := { program := "ytllkojakeoennaa", sum := "98517649fd27fddb17808550e7446afe18f922ed0827d12fc9c6cbc97b5861be", func := "loop.example/g01142/laws.FnExactFlagOf", spec := "fnExactFlagOf", inPlace := ["internal/abi.NoEscape", "internal/bytealg.MakeNoZero"], apart := false }
def FnExactFlagOfSaid : Prop := fnExactFlagOfRow.holds Try.pinned (OpenSpec.ofChange fnExactFlagOfSpec)

/-- ITS FALSE NEIGHBOUR: 'it returns false'. Refute it at one input. -/
def fnExactFlagOfWrong : ChangeSpec := { name := "fnExactFlagOf", fn := fun _ => fun
  | [d] => { results := [.lit (.bool false)], args := [d] }
  | _ => none }
def FnExactFlagOfWrongFalsely : Prop := fnExactFlagOfRow.holds Try.pinned (OpenSpec.ofChange fnExactFlagOfWrong)

/-- 'laws.FnExactFrameBits': WHATEVER THE INPUT: true; the input reads as it did. -/
def fnExactFrameBitsSpec : ChangeSpec := { name := "fnExactFrameBits", fn := fun _ => fun
  | [d1, d2] => { results := [.lit (.bool true)], args := [d1, d2] }
  | _ => none }
def fnExactFrameBitsRow : OpenClaim := { program := "ytllkojakeoennaa", sum := "98517649fd27fddb17808550e7446afe18f922ed0827d12fc9c6cbc97b5861be", func := "loop.example/g01142/laws.FnExactFrameBits", spec := "fnExactFrameBits", inPlace := ["internal/abi.NoEscape", "internal/bytealg.MakeNoZero"], apart := false }
def FnExactFrameBitsSaid : Prop := fnExactFrameBitsRow.holds Try.pinned (OpenSpec.ofChange fnExactFrameBitsSpec)

/-- ITS FALSE NEIGHBOUR: 'it returns false'. Refute it at one input. -/
def fnExactFrameBitsWrong : ChangeSpec := { name := "fnExactFrameBits", fn := fun _ => fun
  | [d1, d2] => { results := [.lit (.bool false)], args := [d1, d2] }
  | _ => none }
def FnExactFrameBitsWrongFalsely : Prop := fnExactFrameBitsRow.holds Try.pinned (OpenSpec.ofChange fnExactFrameBitsWrong)

/-- 'laws.FnExactDeframeBits': WHATEVER THE INPUT: true; the input reads as it did. -/
def fnExactDeframeBitsSpec : ChangeSpec := { name := "fnExactDeframeBits", fn := fun _ => fun
  | [d1, d2] => { results := [.lit (.bool true)], args := [d1, d2] }
  | _ => none }
def fnExactDeframeBitsRow : OpenClaim := { program := "ytllkojakeoennaa", sum := "98517649fd27fddb17808550e7446afe18f922ed0827d12fc9c6cbc97b5861be", func := "loop.example/g01142/laws.FnExactDeframeBits", spec := "fnExactDeframeBits", inPlace := ["internal/abi.NoEscape", "internal/bytealg.MakeNoZero", "internal/bytealg.IndexByte", "internal/bytealg.Index"], named := ["internal/bytealg.MaxLen"], apart := false }
def FnExactDeframeBitsSaid : Prop := fnExactDeframeBitsRow.holds Try.pinned (OpenSpec.ofChange fnExactDeframeBitsSpec)

/-- ITS FALSE NEIGHBOUR: 'it returns false'. Refute it at one input. -/
def fnExactDeframeBitsWrong : ChangeSpec := { name := "fnExactDeframeBits", fn := fun _ => fun
  | [d1, d2] => { results := [.lit (.bool false)], args := [d1, d2] }
  | _ => none }
def FnExactDeframeBitsWrongFalsely : Prop := fnExactDeframeBitsRow.holds Try.pinned (OpenSpec.ofChange fnExactDeframeBitsWrong)

/-- 'laws.FnExactMeanStuffed': WHATEVER THE INPUT: true; the input reads as it did. -/
def fnExactMeanStuffedSpec : ChangeSpec := { name := "fnExactMeanStuffed", fn := fun _ => fun
  | [d] => { results := [.lit (.bool true)], args := [d] }
  | _ => none }
def fnExactMeanStuffedRow : OpenClaim := { program := "ytllkojakeoennaa", sum := "98517649fd27fddb17808550e7446afe18f922ed0827d12fc9c6cbc97b5861be", func := "loop.example/g01142/laws.FnExactMeanStuffed", spec := "fnExactMeanStuffed", apart := false }
def FnExactMeanStuffedSaid : Prop := fnExactMeanStuffedRow.holds Try.pinned (OpenSpec.ofChange fnExactMeanStuffedSpec)

/-- ITS FALSE NEIGHBOUR: 'it returns false'. Refute it at one input. -/
def fnExactMeanStuffedWrong : ChangeSpec := { name := "fnExactMeanStuffed", fn := fun _ => fun
  | [d] => { results := [.lit (.bool false)], args := [d] }
  | _ => none }
def FnExactMeanStuffedWrongFalsely : Prop := fnExactMeanStuffedRow.holds Try.pinned (OpenSpec.ofChange fnExactMeanStuffedWrong)

/-- 'laws.FnExactMostStuffed': WHATEVER THE INPUT: true; the input reads as it did. -/
def fnExactMostStuffedSpec : ChangeSpec := { name := "fnExactMostStuffed", fn := fun _ => fun
  | [d1, d2] => { results := [.lit (.bool true)], args := [d1, d2] }
  | _ => none }
def fnExactMostStuffedRow : OpenClaim := { program := "ytllkojakeoennaa", sum := "98517649fd27fddb17808550e7446afe18f922ed0827d12fc9c6cbc97b5861be", func := "loop.example/g01142/laws.FnExactMostStuffed", spec := "fnExactMostStuffed", apart := false }
def FnExactMostStuffedSaid : Prop := fnExactMostStuffedRow.holds Try.pinned (OpenSpec.ofChange fnExactMostStuffedSpec)

/-- ITS FALSE NEIGHBOUR: 'it returns false'. Refute it at one input. -/
def fnExactMostStuffedWrong : ChangeSpec := { name := "fnExactMostStuffed", fn := fun _ => fun
  | [d1, d2] => { results := [.lit (.bool false)], args := [d1, d2] }
  | _ => none }
def FnExactMostStuffedWrongFalsely : Prop := fnExactMostStuffedRow.holds Try.pinned (OpenSpec.ofChange fnExactMostStuffedWrong)

/-- 'laws.FnExactCountStuffed': WHATEVER THE INPUT: true; the input reads as it did. -/
def fnExactCountStuffedSpec : ChangeSpec := { name := "fnExactCountStuffed", fn := fun _ => fun
  | [d1, d2] => { results := [.lit (.bool true)], args := [d1, d2] }
  | _ => none }
def fnExactCountStuffedRow : OpenClaim := { program := "ytllkojakeoennaa", sum := "98517649fd27fddb17808550e7446afe18f922ed0827d12fc9c6cbc97b5861be", func := "loop.example/g01142/laws.FnExactCountStuffed", spec := "fnExactCountStuffed", apart := false }
def FnExactCountStuffedSaid : Prop := fnExactCountStuffedRow.holds Try.pinned (OpenSpec.ofChange fnExactCountStuffedSpec)

/-- ITS FALSE NEIGHBOUR: 'it returns false'. Refute it at one input. -/
def fnExactCountStuffedWrong : ChangeSpec := { name := "fnExactCountStuffed", fn := fun _ => fun
  | [d1, d2] => { results := [.lit (.bool false)], args := [d1, d2] }
  | _ => none }
def FnExactCountStuffedWrongFalsely : Prop := fnExactCountStuffedRow.holds Try.pinned (OpenSpec.ofChange fnExactCountStuffedWrong)

/-- 'laws.FnFramed': WHATEVER THE INPUT: true; the input reads as it did. -/
def fnFramedSpec : ChangeSpec := { name := "fnFramed", fn := fun _ => fun
  | [d1, d2] => { results := [.lit (.bool true)], args := [d1, d2] }
  | _ => none }
def fnFramedRow : OpenClaim := { program := "ytllkojakeoennaa", sum := "98517649fd27fddb17808550e7446afe18f922ed0827d12fc9c6cbc97b5861be", func := "loop.example/g01142/laws.FnFramed", spec := "fnFramed", inPlace := ["internal/abi.NoEscape", "internal/bytealg.MakeNoZero", "internal/bytealg.IndexByte", "internal/bytealg.Index"], named := ["internal/bytealg.MaxLen"], apart := false }
def FnFramedSaid : Prop := fnFramedRow.holds Try.pinned (OpenSpec.ofChange fnFramedSpec)

/-- ITS FALSE NEIGHBOUR: 'it returns false'. Refute it at one input. -/
def fnFramedWrong : ChangeSpec := { name := "fnFramed", fn := fun _ => fun
  | [d1, d2] => { results := [.lit (.bool false)], args := [d1, d2] }
  | _ => none }
def FnFramedWrongFalsely : Prop := fnFramedRow.holds Try.pinned (OpenSpec.ofChange fnFramedWrong)

/-- 'laws.FnStuffedCounts': WHATEVER THE INPUT: true; the input reads as it did. -/
def fnStuffedCountsSpec : ChangeSpec := { name := "fnStuffedCounts", fn := fun _ => fun
  | [d1, d2] => { results := [.lit (.bool true)], args := [d1, d2] }
  | _ => none }
def fnStuffedCountsRow : OpenClaim := { program := "ytllkojakeoennaa", sum := "98517649fd27fddb17808550e7446afe18f922ed0827d12fc9c6cbc97b5861be", func := "loop.example/g01142/laws.FnStuffedCounts", spec := "fnStuffedCounts", inPlace := ["internal/abi.NoEscape"], apart := false }
def FnStuffedCountsSaid : Prop := fnStuffedCountsRow.holds Try.pinned (OpenSpec.ofChange fnStuffedCountsSpec)

/-- ITS FALSE NEIGHBOUR: 'it returns false'. Refute it at one input. -/
def fnStuffedCountsWrong : ChangeSpec := { name := "fnStuffedCounts", fn := fun _ => fun
  | [d1, d2] => { results := [.lit (.bool false)], args := [d1, d2] }
  | _ => none }
def FnStuffedCountsWrongFalsely : Prop := fnStuffedCountsRow.holds Try.pinned (OpenSpec.ofChange fnStuffedCountsWrong)

/- THE SECOND FORM. 'bulk': how many values and letters a reading holds, each counted each time it is reached (what is shared counts as often as it is met; a slice's spare places count too). A statement '..UptoSaid' is the law's where the arguments, and the package variables that the reading takes, are together of bulk at most 1048576: NARROWER than '..Said'. Prove '..Said' where nothing that the law and all that it calls make is longer than what came in: it says more and counts as full. Else prove '..UptoSaid'. A law counts once. -/
mutual
def uptoBulk {H : Type} : DataW H → Nat
  | .lit (.string bytes) => bytes.length + 1
  | .lit _ => 1
  | .nil => 1
  | .ptr d => uptoBulk d + 1
  | .slice elems spare => uptoBulkAll elems + uptoBulkAll spare + 1
  | .agg parts => uptoBulkAll parts + 1
  | .iface _ d => uptoBulk d + 1
  | .map entries => uptoBulkEntries entries + 1
  | .held _ => 1
def uptoBulkAll {H : Type} : List (DataW H) → Nat
  | [] => 0
  | d :: r => uptoBulk d + uptoBulkAll r
def uptoBulkEntries {H : Type} : List (Lit × DataW H) → Nat
  | [] => 0
  | x :: r => uptoBulkEntry x + uptoBulkEntries r
def uptoBulkEntry {H : Type} : Lit × DataW H → Nat
  | (.string bytes, d) => bytes.length + uptoBulk d + 1
  | (_, d) => uptoBulk d + 1
 end
def uptoSmall : (H : Type) → List (DataW H) → Bool := fun _ ds => decide (uptoBulkAll ds ≤ 1048576)
def OpenSpec.upto (s : _root_.Go.ChangeSpec) : _root_.Go.OpenSpec := { _root_.Go.OpenSpec.ofChange s with cond := some uptoSmall }

/-- 'laws.FnExactValidStuffer', WHERE WHAT IT READS IS OF BULK AT MOST 1048576: true; the input reads as it did. -/
def fnExactValidStufferUptoRow : OpenClaim := { program := "ytllkojakeoennaa", sum := "98517649fd27fddb17808550e7446afe18f922ed0827d12fc9c6cbc97b5861be", func := "loop.example/g01142/laws.FnExactValidStuffer", spec := "fnExactValidStuffer", apart := false, narrowed := true }
def FnExactValidStufferUptoSaid : Prop := fnExactValidStufferUptoRow.holds Try.pinned (OpenSpec.upto fnExactValidStufferSpec)

/-- 'laws.FnExactStuffBits', WHERE WHAT IT READS IS OF BULK AT MOST 1048576: true; the input reads as it did. -/
def fnExactStuffBitsUptoRow : OpenClaim := { program := "ytllkojakeoennaa", sum := "98517649fd27fddb17808550e7446afe18f922ed0827d12fc9c6cbc97b5861be", func := "loop.example/g01142/laws.FnExactStuffBits", spec := "fnExactStuffBits", inPlace := ["internal/abi.NoEscape"], apart := false, narrowed := true }
def FnExactStuffBitsUptoSaid : Prop := fnExactStuffBitsUptoRow.holds Try.pinned (OpenSpec.upto fnExactStuffBitsSpec)

/-- 'laws.FnExactUnstuffBits', WHERE WHAT IT READS IS OF BULK AT MOST 1048576: true; the input reads as it did. -/
def fnExactUnstuffBitsUptoRow : OpenClaim := { program := "ytllkojakeoennaa", sum := "98517649fd27fddb17808550e7446afe18f922ed0827d12fc9c6cbc97b5861be", func := "loop.example/g01142/laws.FnExactUnstuffBits", spec := "fnExactUnstuffBits", inPlace := ["internal/abi.NoEscape"], apart := false, narrowed := true }
def FnExactUnstuffBitsUptoSaid : Prop := fnExactUnstuffBitsUptoRow.holds Try.pinned (OpenSpec.upto fnExactUnstuffBitsSpec)

/-- 'laws.FnExactFlagOf', WHERE WHAT IT READS IS OF BULK AT MOST 1048576: true; the input reads as it did. -/
def fnExactFlagOfUptoRow : OpenClaim := { program := "ytllkojakeoennaa", sum := "98517649fd27fddb17808550e7446afe18f922ed0827d12fc9c6cbc97b5861be", func := "loop.example/g01142/laws.FnExactFlagOf", spec := "fnExactFlagOf", inPlace := ["internal/abi.NoEscape", "internal/bytealg.MakeNoZero"], apart := false, narrowed := true }
def FnExactFlagOfUptoSaid : Prop := fnExactFlagOfUptoRow.holds Try.pinned (OpenSpec.upto fnExactFlagOfSpec)

/-- 'laws.FnExactFrameBits', WHERE WHAT IT READS IS OF BULK AT MOST 1048576: true; the input reads as it did. -/
def fnExactFrameBitsUptoRow : OpenClaim := { program := "ytllkojakeoennaa", sum := "98517649fd27fddb17808550e7446afe18f922ed0827d12fc9c6cbc97b5861be", func := "loop.example/g01142/laws.FnExactFrameBits", spec := "fnExactFrameBits", inPlace := ["internal/abi.NoEscape", "internal/bytealg.MakeNoZero"], apart := false, narrowed := true }
def FnExactFrameBitsUptoSaid : Prop := fnExactFrameBitsUptoRow.holds Try.pinned (OpenSpec.upto fnExactFrameBitsSpec)

/-- 'laws.FnExactDeframeBits', WHERE WHAT IT READS IS OF BULK AT MOST 1048576: true; the input reads as it did. -/
def fnExactDeframeBitsUptoRow : OpenClaim := { program := "ytllkojakeoennaa", sum := "98517649fd27fddb17808550e7446afe18f922ed0827d12fc9c6cbc97b5861be", func := "loop.example/g01142/laws.FnExactDeframeBits", spec := "fnExactDeframeBits", inPlace := ["internal/abi.NoEscape", "internal/bytealg.MakeNoZero", "internal/bytealg.IndexByte", "internal/bytealg.Index"], named := ["internal/bytealg.MaxLen"], apart := false, narrowed := true }
def FnExactDeframeBitsUptoSaid : Prop := fnExactDeframeBitsUptoRow.holds Try.pinned (OpenSpec.upto fnExactDeframeBitsSpec)

/-- 'laws.FnExactMeanStuffed', WHERE WHAT IT READS IS OF BULK AT MOST 1048576: true; the input reads as it did. -/
def fnExactMeanStuffedUptoRow : OpenClaim := { program := "ytllkojakeoennaa", sum := "98517649fd27fddb17808550e7446afe18f922ed0827d12fc9c6cbc97b5861be", func := "loop.example/g01142/laws.FnExactMeanStuffed", spec := "fnExactMeanStuffed", apart := false, narrowed := true }
def FnExactMeanStuffedUptoSaid : Prop := fnExactMeanStuffedUptoRow.holds Try.pinned (OpenSpec.upto fnExactMeanStuffedSpec)

/-- 'laws.FnExactMostStuffed', WHERE WHAT IT READS IS OF BULK AT MOST 1048576: true; the input reads as it did. -/
def fnExactMostStuffedUptoRow : OpenClaim := { program := "ytllkojakeoennaa", sum := "98517649fd27fddb17808550e7446afe18f922ed0827d12fc9c6cbc97b5861be", func := "loop.example/g01142/laws.FnExactMostStuffed", spec := "fnExactMostStuffed", apart := false, narrowed := true }
def FnExactMostStuffedUptoSaid : Prop := fnExactMostStuffedUptoRow.holds Try.pinned (OpenSpec.upto fnExactMostStuffedSpec)

/-- 'laws.FnExactCountStuffed', WHERE WHAT IT READS IS OF BULK AT MOST 1048576: true; the input reads as it did. -/
def fnExactCountStuffedUptoRow : OpenClaim := { program := "ytllkojakeoennaa", sum := "98517649fd27fddb17808550e7446afe18f922ed0827d12fc9c6cbc97b5861be", func := "loop.example/g01142/laws.FnExactCountStuffed", spec := "fnExactCountStuffed", apart := false, narrowed := true }
def FnExactCountStuffedUptoSaid : Prop := fnExactCountStuffedUptoRow.holds Try.pinned (OpenSpec.upto fnExactCountStuffedSpec)

/-- 'laws.FnFramed', WHERE WHAT IT READS IS OF BULK AT MOST 1048576: true; the input reads as it did. -/
def fnFramedUptoRow : OpenClaim := { program := "ytllkojakeoennaa", sum := "98517649fd27fddb17808550e7446afe18f922ed0827d12fc9c6cbc97b5861be", func := "loop.example/g01142/laws.FnFramed", spec := "fnFramed", inPlace := ["internal/abi.NoEscape", "internal/bytealg.MakeNoZero", "internal/bytealg.IndexByte", "internal/bytealg.Index"], named := ["internal/bytealg.MaxLen"], apart := false, narrowed := true }
def FnFramedUptoSaid : Prop := fnFramedUptoRow.holds Try.pinned (OpenSpec.upto fnFramedSpec)

/-- 'laws.FnStuffedCounts', WHERE WHAT IT READS IS OF BULK AT MOST 1048576: true; the input reads as it did. -/
def fnStuffedCountsUptoRow : OpenClaim := { program := "ytllkojakeoennaa", sum := "98517649fd27fddb17808550e7446afe18f922ed0827d12fc9c6cbc97b5861be", func := "loop.example/g01142/laws.FnStuffedCounts", spec := "fnStuffedCounts", inPlace := ["internal/abi.NoEscape"], apart := false, narrowed := true }
def FnStuffedCountsUptoSaid : Prop := fnStuffedCountsUptoRow.holds Try.pinned (OpenSpec.upto fnStuffedCountsSpec)

end Rows
end Go.Proofs.Ytllkojakeoennaa
