/-
  No cell of these rows narrows 'for every input' (looked for: loops, veiled, ifaces, maps, wideKeys, modest, calm, conditions, laid).
  DERIVED. THE GIVEN ROWS OF THIS SEAT. 10 by the template 'for every input the law returns true; each argument reads behind the call as it read before'; 0 by the template 'total and deterministic' (their statements: YtnllllpdjfbedabTotals.lean).
  GIVEN WITH THE SEED: the statements are not yours to turn. If you find one false, say at which input.
  Laid BY PROGRAM, IN A SANDBOX (cutbox-rows.mjs): the forced cells as the released guide's own fill.sh prints them over the translation 5a21c8c289bcfe76… (all of the seat's roots in one cut). By AI agents, Wed Nov 11 2026. No macro, syntax, notation, axiom, sorry.
-/
import Derived.Test.YtnllllpdjfbedabChecked
import GoSem.Claim
import GoSem.ClaimJoined
import GoSem.ClaimMapViews
import Derived.JoinedTies
import Derived.KernelRfl
namespace Go.Proofs.Ytnllllpdjfbedab
/- THE CELL 'sum', in the pinned program and in every row, IS THE sha256 OF THE DUMP (.gsa) THAT YtnllllpdjfbedabProg.lean LOADS. Nothing in Lean hashes anything: it is a label: what it is worth is what the hold of that sum in a sandbox is worth. -/
noncomputable def Try.pinned : Pinned := { name := "ytnllllpdjfbedab", sum := "5a21c8c289bcfe76844255f2a63b8d0ccf49dceca7421a0bc636ee3d012b44fe", checked := Try.checked }
namespace Rows
def none {H : Type} : Left H := { results := [], args := [] }

/-- 'laws.FnExactGrowthBounds': WHATEVER THE INPUT: true; the input reads as it did. -/
def fnExactGrowthBoundsSpec : ChangeSpec := { name := "fnExactGrowthBounds", fn := fun _ => fun
  | [d1, d2] => { results := [.lit (.bool true)], args := [d1, d2] }
  | _ => none }
def fnExactGrowthBoundsRow : OpenClaim := { program := "ytnllllpdjfbedab", sum := "5a21c8c289bcfe76844255f2a63b8d0ccf49dceca7421a0bc636ee3d012b44fe", func := "loop.example/g01142/laws.FnExactGrowthBounds", spec := "fnExactGrowthBounds", inPlace := ["math/bits.Sub64", "math/bits.Add64"], unfollowed := true, recurses := true, apart := false }
def FnExactGrowthBoundsSaid : Prop := fnExactGrowthBoundsRow.holds Try.pinned (OpenSpec.ofChange fnExactGrowthBoundsSpec)

/-- ITS FALSE NEIGHBOUR: 'it returns false'. Refute it at one input. -/
def fnExactGrowthBoundsWrong : ChangeSpec := { name := "fnExactGrowthBounds", fn := fun _ => fun
  | [d1, d2] => { results := [.lit (.bool false)], args := [d1, d2] }
  | _ => none }
def FnExactGrowthBoundsWrongFalsely : Prop := fnExactGrowthBoundsRow.holds Try.pinned (OpenSpec.ofChange fnExactGrowthBoundsWrong)

/-- 'laws.FnExactCodeVector': WHATEVER THE INPUT: true; the input reads as it did. -/
def fnExactCodeVectorSpec : ChangeSpec := { name := "fnExactCodeVector", fn := fun _ => fun
  | [d1, d2, d3, d4] => { results := [.lit (.bool true)], args := [d1, d2, d3, d4] }
  | _ => none }
def fnExactCodeVectorRow : OpenClaim := { program := "ytnllllpdjfbedab", sum := "5a21c8c289bcfe76844255f2a63b8d0ccf49dceca7421a0bc636ee3d012b44fe", func := "loop.example/g01142/laws.FnExactCodeVector", spec := "fnExactCodeVector", apart := false }
def FnExactCodeVectorSaid : Prop := fnExactCodeVectorRow.holds Try.pinned (OpenSpec.ofChange fnExactCodeVectorSpec)

/-- ITS FALSE NEIGHBOUR: 'it returns false'. Refute it at one input. -/
def fnExactCodeVectorWrong : ChangeSpec := { name := "fnExactCodeVector", fn := fun _ => fun
  | [d1, d2, d3, d4] => { results := [.lit (.bool false)], args := [d1, d2, d3, d4] }
  | _ => none }
def FnExactCodeVectorWrongFalsely : Prop := fnExactCodeVectorRow.holds Try.pinned (OpenSpec.ofChange fnExactCodeVectorWrong)

/-- 'laws.FnExactIsCodeVector': WHATEVER THE INPUT: true; the input reads as it did. -/
def fnExactIsCodeVectorSpec : ChangeSpec := { name := "fnExactIsCodeVector", fn := fun _ => fun
  | [d1, d2, d3, d4] => { results := [.lit (.bool true)], args := [d1, d2, d3, d4] }
  | _ => none }
def fnExactIsCodeVectorRow : OpenClaim := { program := "ytnllllpdjfbedab", sum := "5a21c8c289bcfe76844255f2a63b8d0ccf49dceca7421a0bc636ee3d012b44fe", func := "loop.example/g01142/laws.FnExactIsCodeVector", spec := "fnExactIsCodeVector", apart := false }
def FnExactIsCodeVectorSaid : Prop := fnExactIsCodeVectorRow.holds Try.pinned (OpenSpec.ofChange fnExactIsCodeVectorSpec)

/-- ITS FALSE NEIGHBOUR: 'it returns false'. Refute it at one input. -/
def fnExactIsCodeVectorWrong : ChangeSpec := { name := "fnExactIsCodeVector", fn := fun _ => fun
  | [d1, d2, d3, d4] => { results := [.lit (.bool false)], args := [d1, d2, d3, d4] }
  | _ => none }
def FnExactIsCodeVectorWrongFalsely : Prop := fnExactIsCodeVectorRow.holds Try.pinned (OpenSpec.ofChange fnExactIsCodeVectorWrong)

/-- 'laws.FnExactParityOf': WHATEVER THE INPUT: true; the input reads as it did. -/
def fnExactParityOfSpec : ChangeSpec := { name := "fnExactParityOf", fn := fun _ => fun
  | [d1, d2] => { results := [.lit (.bool true)], args := [d1, d2] }
  | _ => none }
def fnExactParityOfRow : OpenClaim := { program := "ytnllllpdjfbedab", sum := "5a21c8c289bcfe76844255f2a63b8d0ccf49dceca7421a0bc636ee3d012b44fe", func := "loop.example/g01142/laws.FnExactParityOf", spec := "fnExactParityOf", apart := false }
def FnExactParityOfSaid : Prop := fnExactParityOfRow.holds Try.pinned (OpenSpec.ofChange fnExactParityOfSpec)

/-- ITS FALSE NEIGHBOUR: 'it returns false'. Refute it at one input. -/
def fnExactParityOfWrong : ChangeSpec := { name := "fnExactParityOf", fn := fun _ => fun
  | [d1, d2] => { results := [.lit (.bool false)], args := [d1, d2] }
  | _ => none }
def FnExactParityOfWrongFalsely : Prop := fnExactParityOfRow.holds Try.pinned (OpenSpec.ofChange fnExactParityOfWrong)

/-- 'laws.FnExactBitsOfBytes': WHATEVER THE INPUT: true; the input reads as it did. -/
def fnExactBitsOfBytesSpec : ChangeSpec := { name := "fnExactBitsOfBytes", fn := fun _ => fun
  | [d] => { results := [.lit (.bool true)], args := [d] }
  | _ => none }
def fnExactBitsOfBytesRow : OpenClaim := { program := "ytnllllpdjfbedab", sum := "5a21c8c289bcfe76844255f2a63b8d0ccf49dceca7421a0bc636ee3d012b44fe", func := "loop.example/g01142/laws.FnExactBitsOfBytes", spec := "fnExactBitsOfBytes", inPlace := ["internal/abi.NoEscape"], apart := false }
def FnExactBitsOfBytesSaid : Prop := fnExactBitsOfBytesRow.holds Try.pinned (OpenSpec.ofChange fnExactBitsOfBytesSpec)

/-- ITS FALSE NEIGHBOUR: 'it returns false'. Refute it at one input. -/
def fnExactBitsOfBytesWrong : ChangeSpec := { name := "fnExactBitsOfBytes", fn := fun _ => fun
  | [d] => { results := [.lit (.bool false)], args := [d] }
  | _ => none }
def FnExactBitsOfBytesWrongFalsely : Prop := fnExactBitsOfBytesRow.holds Try.pinned (OpenSpec.ofChange fnExactBitsOfBytesWrong)

/-- 'laws.FnExactBinomialOf': WHATEVER THE INPUT: true; the input reads as it did. -/
def fnExactBinomialOfSpec : ChangeSpec := { name := "fnExactBinomialOf", fn := fun _ => fun
  | [d1, d2] => { results := [.lit (.bool true)], args := [d1, d2] }
  | _ => none }
def fnExactBinomialOfRow : OpenClaim := { program := "ytnllllpdjfbedab", sum := "5a21c8c289bcfe76844255f2a63b8d0ccf49dceca7421a0bc636ee3d012b44fe", func := "loop.example/g01142/laws.FnExactBinomialOf", spec := "fnExactBinomialOf", apart := false }
def FnExactBinomialOfSaid : Prop := fnExactBinomialOfRow.holds Try.pinned (OpenSpec.ofChange fnExactBinomialOfSpec)

/-- ITS FALSE NEIGHBOUR: 'it returns false'. Refute it at one input. -/
def fnExactBinomialOfWrong : ChangeSpec := { name := "fnExactBinomialOf", fn := fun _ => fun
  | [d1, d2] => { results := [.lit (.bool false)], args := [d1, d2] }
  | _ => none }
def FnExactBinomialOfWrongFalsely : Prop := fnExactBinomialOfRow.holds Try.pinned (OpenSpec.ofChange fnExactBinomialOfWrong)

/-- 'laws.FnExactAddFractions': WHATEVER THE INPUT: true; the input reads as it did. -/
def fnExactAddFractionsSpec : ChangeSpec := { name := "fnExactAddFractions", fn := fun _ => fun
  | [d1, d2] => { results := [.lit (.bool true)], args := [d1, d2] }
  | _ => none }
def fnExactAddFractionsRow : OpenClaim := { program := "ytnllllpdjfbedab", sum := "5a21c8c289bcfe76844255f2a63b8d0ccf49dceca7421a0bc636ee3d012b44fe", func := "loop.example/g01142/laws.FnExactAddFractions", spec := "fnExactAddFractions", inPlace := ["math/bits.Sub64", "math/bits.Add64"], named := ["math/bits.divideError", "math/bits.overflowError"], apart := false }
def FnExactAddFractionsSaid : Prop := fnExactAddFractionsRow.holds Try.pinned (OpenSpec.ofChange fnExactAddFractionsSpec)

/-- ITS FALSE NEIGHBOUR: 'it returns false'. Refute it at one input. -/
def fnExactAddFractionsWrong : ChangeSpec := { name := "fnExactAddFractions", fn := fun _ => fun
  | [d1, d2] => { results := [.lit (.bool false)], args := [d1, d2] }
  | _ => none }
def FnExactAddFractionsWrongFalsely : Prop := fnExactAddFractionsRow.holds Try.pinned (OpenSpec.ofChange fnExactAddFractionsWrong)

/-- 'laws.FnExactSubFractions': WHATEVER THE INPUT: true; the input reads as it did. -/
def fnExactSubFractionsSpec : ChangeSpec := { name := "fnExactSubFractions", fn := fun _ => fun
  | [d1, d2] => { results := [.lit (.bool true)], args := [d1, d2] }
  | _ => none }
def fnExactSubFractionsRow : OpenClaim := { program := "ytnllllpdjfbedab", sum := "5a21c8c289bcfe76844255f2a63b8d0ccf49dceca7421a0bc636ee3d012b44fe", func := "loop.example/g01142/laws.FnExactSubFractions", spec := "fnExactSubFractions", inPlace := ["math/bits.Sub64", "math/bits.Add64"], named := ["math/bits.divideError", "math/bits.overflowError"], apart := false }
def FnExactSubFractionsSaid : Prop := fnExactSubFractionsRow.holds Try.pinned (OpenSpec.ofChange fnExactSubFractionsSpec)

/-- ITS FALSE NEIGHBOUR: 'it returns false'. Refute it at one input. -/
def fnExactSubFractionsWrong : ChangeSpec := { name := "fnExactSubFractions", fn := fun _ => fun
  | [d1, d2] => { results := [.lit (.bool false)], args := [d1, d2] }
  | _ => none }
def FnExactSubFractionsWrongFalsely : Prop := fnExactSubFractionsRow.holds Try.pinned (OpenSpec.ofChange fnExactSubFractionsWrong)

/-- 'laws.FnExactSumFractions': WHATEVER THE INPUT: true; the input reads as it did. -/
def fnExactSumFractionsSpec : ChangeSpec := { name := "fnExactSumFractions", fn := fun _ => fun
  | [d] => { results := [.lit (.bool true)], args := [d] }
  | _ => none }
def fnExactSumFractionsRow : OpenClaim := { program := "ytnllllpdjfbedab", sum := "5a21c8c289bcfe76844255f2a63b8d0ccf49dceca7421a0bc636ee3d012b44fe", func := "loop.example/g01142/laws.FnExactSumFractions", spec := "fnExactSumFractions", inPlace := ["math/bits.Sub64", "math/bits.Add64"], named := ["math/bits.divideError", "math/bits.overflowError"], apart := false }
def FnExactSumFractionsSaid : Prop := fnExactSumFractionsRow.holds Try.pinned (OpenSpec.ofChange fnExactSumFractionsSpec)

/-- ITS FALSE NEIGHBOUR: 'it returns false'. Refute it at one input. -/
def fnExactSumFractionsWrong : ChangeSpec := { name := "fnExactSumFractions", fn := fun _ => fun
  | [d] => { results := [.lit (.bool false)], args := [d] }
  | _ => none }
def FnExactSumFractionsWrongFalsely : Prop := fnExactSumFractionsRow.holds Try.pinned (OpenSpec.ofChange fnExactSumFractionsWrong)

/-- 'laws.FnPlaces': WHATEVER THE INPUT: true; the input reads as it did. -/
def fnPlacesSpec : ChangeSpec := { name := "fnPlaces", fn := fun _ => fun
  | [d1, d2] => { results := [.lit (.bool true)], args := [d1, d2] }
  | _ => none }
def fnPlacesRow : OpenClaim := { program := "ytnllllpdjfbedab", sum := "5a21c8c289bcfe76844255f2a63b8d0ccf49dceca7421a0bc636ee3d012b44fe", func := "loop.example/g01142/laws.FnPlaces", spec := "fnPlaces", inPlace := ["internal/bytealg.IndexByte", "internal/bytealg.Index", "internal/abi.NoEscape"], named := ["internal/bytealg.MaxLen"], apart := false }
def FnPlacesSaid : Prop := fnPlacesRow.holds Try.pinned (OpenSpec.ofChange fnPlacesSpec)

/-- ITS FALSE NEIGHBOUR: 'it returns false'. Refute it at one input. -/
def fnPlacesWrong : ChangeSpec := { name := "fnPlaces", fn := fun _ => fun
  | [d1, d2] => { results := [.lit (.bool false)], args := [d1, d2] }
  | _ => none }
def FnPlacesWrongFalsely : Prop := fnPlacesRow.holds Try.pinned (OpenSpec.ofChange fnPlacesWrong)

/- THE SECOND FORM. 'bulk': how many values and letters a reading holds, each counted each time it is reached (what is shared counts as often as it is met; a slice's spare places count too). A statement '..UptoSaid' is the law's where the arguments, and the package variables that the reading takes, are together of bulk at most 1048576: NARROWER than '..Said'. Prove '..Said' where nothing that the law and all that it calls make is longer than what came in: it says more and counts as full. Else prove '..UptoSaid'. A law counts once. -/
mutual
def uptoBulk {H : Type} : DataW H → Nat
  | .lit (.string bytes) => bytes.length + 1
  | .lit _ => 1
  | .nil => 1
  | .ptr d => uptoBulk d + 1
  | .slice elems spare => uptoBulkAll elems + uptoBulkAll spare + 1
  | .agg parts => uptoBulkAll parts + 1
  | .iface _ d => uptoBulk d + 1
  | .map entries => uptoBulkEntries entries + 1
  | .held _ => 1
def uptoBulkAll {H : Type} : List (DataW H) → Nat
  | [] => 0
  | d :: r => uptoBulk d + uptoBulkAll r
def uptoBulkEntries {H : Type} : List (Lit × DataW H) → Nat
  | [] => 0
  | x :: r => uptoBulkEntry x + uptoBulkEntries r
def uptoBulkEntry {H : Type} : Lit × DataW H → Nat
  | (.string bytes, d) => bytes.length + uptoBulk d + 1
  | (_, d) => uptoBulk d + 1
 end
def uptoSmall : (H : Type) → List (DataW H) → Bool := fun _ ds => decide (uptoBulkAll ds ≤ 1048576)
def OpenSpec.upto (s : _root_.Go.ChangeSpec) : _root_.Go.OpenSpec := { _root_.Go.OpenSpec.ofChange s with cond := some uptoSmall }

/-- 'laws.FnExactGrowthBounds', WHERE WHAT IT READS IS OF BULK AT MOST 1048576: true; the input reads as it did. -/
def fnExactGrowthBoundsUptoRow : OpenClaim := { program := "ytnllllpdjfbedab", sum := "5a21c8c289bcfe76844255f2a63b8d0ccf49dceca7421a0bc636ee3d012b44fe", func := "loop.example/g01142/laws.FnExactGrowthBounds", spec := "fnExactGrowthBounds", inPlace := ["math/bits.Sub64", "math/bits.Add64"], unfollowed := true, recurses := true, apart := false, narrowed := true }
def FnExactGrowthBoundsUptoSaid : Prop := fnExactGrowthBoundsUptoRow.holds Try.pinned (OpenSpec.upto fnExactGrowthBoundsSpec)

/-- 'laws.FnExactCodeVector', WHERE WHAT IT READS IS OF BULK AT MOST 1048576: true; the input reads as it did. -/
def fnExactCodeVectorUptoRow : OpenClaim := { program := "ytnllllpdjfbedab", sum := "5a21c8c289bcfe76844255f2a63b8d0ccf49dceca7421a0bc636ee3d012b44fe", func := "loop.example/g01142/laws.FnExactCodeVector", spec := "fnExactCodeVector", apart := false, narrowed := true }
def FnExactCodeVectorUptoSaid : Prop := fnExactCodeVectorUptoRow.holds Try.pinned (OpenSpec.upto fnExactCodeVectorSpec)

/-- 'laws.FnExactIsCodeVector', WHERE WHAT IT READS IS OF BULK AT MOST 1048576: true; the input reads as it did. -/
def fnExactIsCodeVectorUptoRow : OpenClaim := { program := "ytnllllpdjfbedab", sum := "5a21c8c289bcfe76844255f2a63b8d0ccf49dceca7421a0bc636ee3d012b44fe", func := "loop.example/g01142/laws.FnExactIsCodeVector", spec := "fnExactIsCodeVector", apart := false, narrowed := true }
def FnExactIsCodeVectorUptoSaid : Prop := fnExactIsCodeVectorUptoRow.holds Try.pinned (OpenSpec.upto fnExactIsCodeVectorSpec)

/-- 'laws.FnExactParityOf', WHERE WHAT IT READS IS OF BULK AT MOST 1048576: true; the input reads as it did. -/
def fnExactParityOfUptoRow : OpenClaim := { program := "ytnllllpdjfbedab", sum := "5a21c8c289bcfe76844255f2a63b8d0ccf49dceca7421a0bc636ee3d012b44fe", func := "loop.example/g01142/laws.FnExactParityOf", spec := "fnExactParityOf", apart := false, narrowed := true }
def FnExactParityOfUptoSaid : Prop := fnExactParityOfUptoRow.holds Try.pinned (OpenSpec.upto fnExactParityOfSpec)

/-- 'laws.FnExactBitsOfBytes', WHERE WHAT IT READS IS OF BULK AT MOST 1048576: true; the input reads as it did. -/
def fnExactBitsOfBytesUptoRow : OpenClaim := { program := "ytnllllpdjfbedab", sum := "5a21c8c289bcfe76844255f2a63b8d0ccf49dceca7421a0bc636ee3d012b44fe", func := "loop.example/g01142/laws.FnExactBitsOfBytes", spec := "fnExactBitsOfBytes", inPlace := ["internal/abi.NoEscape"], apart := false, narrowed := true }
def FnExactBitsOfBytesUptoSaid : Prop := fnExactBitsOfBytesUptoRow.holds Try.pinned (OpenSpec.upto fnExactBitsOfBytesSpec)

/-- 'laws.FnExactBinomialOf', WHERE WHAT IT READS IS OF BULK AT MOST 1048576: true; the input reads as it did. -/
def fnExactBinomialOfUptoRow : OpenClaim := { program := "ytnllllpdjfbedab", sum := "5a21c8c289bcfe76844255f2a63b8d0ccf49dceca7421a0bc636ee3d012b44fe", func := "loop.example/g01142/laws.FnExactBinomialOf", spec := "fnExactBinomialOf", apart := false, narrowed := true }
def FnExactBinomialOfUptoSaid : Prop := fnExactBinomialOfUptoRow.holds Try.pinned (OpenSpec.upto fnExactBinomialOfSpec)

/-- 'laws.FnExactAddFractions', WHERE WHAT IT READS IS OF BULK AT MOST 1048576: true; the input reads as it did. -/
def fnExactAddFractionsUptoRow : OpenClaim := { program := "ytnllllpdjfbedab", sum := "5a21c8c289bcfe76844255f2a63b8d0ccf49dceca7421a0bc636ee3d012b44fe", func := "loop.example/g01142/laws.FnExactAddFractions", spec := "fnExactAddFractions", inPlace := ["math/bits.Sub64", "math/bits.Add64"], named := ["math/bits.divideError", "math/bits.overflowError"], apart := false, narrowed := true }
def FnExactAddFractionsUptoSaid : Prop := fnExactAddFractionsUptoRow.holds Try.pinned (OpenSpec.upto fnExactAddFractionsSpec)

/-- 'laws.FnExactSubFractions', WHERE WHAT IT READS IS OF BULK AT MOST 1048576: true; the input reads as it did. -/
def fnExactSubFractionsUptoRow : OpenClaim := { program := "ytnllllpdjfbedab", sum := "5a21c8c289bcfe76844255f2a63b8d0ccf49dceca7421a0bc636ee3d012b44fe", func := "loop.example/g01142/laws.FnExactSubFractions", spec := "fnExactSubFractions", inPlace := ["math/bits.Sub64", "math/bits.Add64"], named := ["math/bits.divideError", "math/bits.overflowError"], apart := false, narrowed := true }
def FnExactSubFractionsUptoSaid : Prop := fnExactSubFractionsUptoRow.holds Try.pinned (OpenSpec.upto fnExactSubFractionsSpec)

/-- 'laws.FnExactSumFractions', WHERE WHAT IT READS IS OF BULK AT MOST 1048576: true; the input reads as it did. -/
def fnExactSumFractionsUptoRow : OpenClaim := { program := "ytnllllpdjfbedab", sum := "5a21c8c289bcfe76844255f2a63b8d0ccf49dceca7421a0bc636ee3d012b44fe", func := "loop.example/g01142/laws.FnExactSumFractions", spec := "fnExactSumFractions", inPlace := ["math/bits.Sub64", "math/bits.Add64"], named := ["math/bits.divideError", "math/bits.overflowError"], apart := false, narrowed := true }
def FnExactSumFractionsUptoSaid : Prop := fnExactSumFractionsUptoRow.holds Try.pinned (OpenSpec.upto fnExactSumFractionsSpec)

/-- 'laws.FnPlaces', WHERE WHAT IT READS IS OF BULK AT MOST 1048576: true; the input reads as it did. -/
def fnPlacesUptoRow : OpenClaim := { program := "ytnllllpdjfbedab", sum := "5a21c8c289bcfe76844255f2a63b8d0ccf49dceca7421a0bc636ee3d012b44fe", func := "loop.example/g01142/laws.FnPlaces", spec := "fnPlaces", inPlace := ["internal/bytealg.IndexByte", "internal/bytealg.Index", "internal/abi.NoEscape"], named := ["internal/bytealg.MaxLen"], apart := false, narrowed := true }
def FnPlacesUptoSaid : Prop := fnPlacesUptoRow.holds Try.pinned (OpenSpec.upto fnPlacesSpec)

end Rows
end Go.Proofs.Ytnllllpdjfbedab
