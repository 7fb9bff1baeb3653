/-
  No cell of these rows narrows 'for every input' (looked for: loops, veiled, ifaces, maps, wideKeys, modest, calm, conditions, laid).
  DERIVED. THE GIVEN ROWS OF THIS SEAT. 12 by the template 'for every input the law returns true; each argument reads behind the call as it read before'; 0 by the template 'total and deterministic' (their statements: YtjmaapbodacggaaTotals.lean).
  GIVEN WITH THE SEED: the statements are not yours to turn. If you find one false, say at which input.
  Laid BY PROGRAM, IN A SANDBOX (cutbox-rows.mjs): the forced cells as the released guide's own fill.sh prints them over the translation be0b55a74615c7da… (all of the seat's roots in one cut). By AI agents, Wed Nov 11 2026. No macro, syntax, notation, axiom, sorry.
-/
import Derived.Test.YtjmaapbodacggaaChecked
import GoSem.Claim
import GoSem.ClaimJoined
import GoSem.ClaimMapViews
import Derived.JoinedTies
import Derived.KernelRfl
namespace Go.Proofs.Ytjmaapbodacggaa
/- THE CELL 'sum', in the pinned program and in every row, IS THE sha256 OF THE DUMP (.gsa) THAT YtjmaapbodacggaaProg.lean LOADS. Nothing in Lean hashes anything: it is a label: what it is worth is what the hold of that sum in a sandbox is worth. -/
noncomputable def Try.pinned : Pinned := { name := "ytjmaapbodacggaa", sum := "be0b55a74615c7dabb303c2338b8a28c19743f75352e51d29e20ba937db38f92", checked := Try.checked }
namespace Rows
def none {H : Type} : Left H := { results := [], args := [] }

/-- 'laws.FnExactEdgesOf': WHATEVER THE INPUT: true; the input reads as it did. -/
def fnExactEdgesOfSpec : ChangeSpec := { name := "fnExactEdgesOf", fn := fun _ => fun
  | [d] => { results := [.lit (.bool true)], args := [d] }
  | _ => none }
def fnExactEdgesOfRow : OpenClaim := { program := "ytjmaapbodacggaa", sum := "be0b55a74615c7dabb303c2338b8a28c19743f75352e51d29e20ba937db38f92", func := "loop.example/g01142/laws.FnExactEdgesOf", spec := "fnExactEdgesOf", apart := false }
def FnExactEdgesOfSaid : Prop := fnExactEdgesOfRow.holds Try.pinned (OpenSpec.ofChange fnExactEdgesOfSpec)

/-- ITS FALSE NEIGHBOUR: 'it returns false'. Refute it at one input. -/
def fnExactEdgesOfWrong : ChangeSpec := { name := "fnExactEdgesOf", fn := fun _ => fun
  | [d] => { results := [.lit (.bool false)], args := [d] }
  | _ => none }
def FnExactEdgesOfWrongFalsely : Prop := fnExactEdgesOfRow.holds Try.pinned (OpenSpec.ofChange fnExactEdgesOfWrong)

/-- 'laws.FnExactLongestSame': WHATEVER THE INPUT: true; the input reads as it did. -/
def fnExactLongestSameSpec : ChangeSpec := { name := "fnExactLongestSame", fn := fun _ => fun
  | [d] => { results := [.lit (.bool true)], args := [d] }
  | _ => none }
def fnExactLongestSameRow : OpenClaim := { program := "ytjmaapbodacggaa", sum := "be0b55a74615c7dabb303c2338b8a28c19743f75352e51d29e20ba937db38f92", func := "loop.example/g01142/laws.FnExactLongestSame", spec := "fnExactLongestSame", apart := false }
def FnExactLongestSameSaid : Prop := fnExactLongestSameRow.holds Try.pinned (OpenSpec.ofChange fnExactLongestSameSpec)

/-- ITS FALSE NEIGHBOUR: 'it returns false'. Refute it at one input. -/
def fnExactLongestSameWrong : ChangeSpec := { name := "fnExactLongestSame", fn := fun _ => fun
  | [d] => { results := [.lit (.bool false)], args := [d] }
  | _ => none }
def FnExactLongestSameWrongFalsely : Prop := fnExactLongestSameRow.holds Try.pinned (OpenSpec.ofChange fnExactLongestSameWrong)

/-- 'laws.FnExactFlipEffect': WHATEVER THE INPUT: true; the input reads as it did. -/
def fnExactFlipEffectSpec : ChangeSpec := { name := "fnExactFlipEffect", fn := fun _ => fun
  | [d1, d2, d3, d4] => { results := [.lit (.bool true)], args := [d1, d2, d3, d4] }
  | _ => none }
def fnExactFlipEffectRow : OpenClaim := { program := "ytjmaapbodacggaa", sum := "be0b55a74615c7dabb303c2338b8a28c19743f75352e51d29e20ba937db38f92", func := "loop.example/g01142/laws.FnExactFlipEffect", spec := "fnExactFlipEffect", inPlace := ["internal/bytealg.CountString", "internal/bytealg.IndexByteString", "internal/bytealg.IndexString", "internal/abi.NoEscape"], named := ["internal/bytealg.MaxLen"], apart := false }
def FnExactFlipEffectSaid : Prop := fnExactFlipEffectRow.holds Try.pinned (OpenSpec.ofChange fnExactFlipEffectSpec)

/-- ITS FALSE NEIGHBOUR: 'it returns false'. Refute it at one input. -/
def fnExactFlipEffectWrong : ChangeSpec := { name := "fnExactFlipEffect", fn := fun _ => fun
  | [d1, d2, d3, d4] => { results := [.lit (.bool false)], args := [d1, d2, d3, d4] }
  | _ => none }
def FnExactFlipEffectWrongFalsely : Prop := fnExactFlipEffectRow.holds Try.pinned (OpenSpec.ofChange fnExactFlipEffectWrong)

/-- 'laws.FnExactEscapeBytes': WHATEVER THE INPUT: true; the input reads as it did. -/
def fnExactEscapeBytesSpec : ChangeSpec := { name := "fnExactEscapeBytes", fn := fun _ => fun
  | [d1, d2] => { results := [.lit (.bool true)], args := [d1, d2] }
  | _ => none }
def fnExactEscapeBytesRow : OpenClaim := { program := "ytjmaapbodacggaa", sum := "be0b55a74615c7dabb303c2338b8a28c19743f75352e51d29e20ba937db38f92", func := "loop.example/g01142/laws.FnExactEscapeBytes", spec := "fnExactEscapeBytes", apart := false }
def FnExactEscapeBytesSaid : Prop := fnExactEscapeBytesRow.holds Try.pinned (OpenSpec.ofChange fnExactEscapeBytesSpec)

/-- ITS FALSE NEIGHBOUR: 'it returns false'. Refute it at one input. -/
def fnExactEscapeBytesWrong : ChangeSpec := { name := "fnExactEscapeBytes", fn := fun _ => fun
  | [d1, d2] => { results := [.lit (.bool false)], args := [d1, d2] }
  | _ => none }
def FnExactEscapeBytesWrongFalsely : Prop := fnExactEscapeBytesRow.holds Try.pinned (OpenSpec.ofChange fnExactEscapeBytesWrong)

/-- 'laws.FnExactUnescapeBytes': WHATEVER THE INPUT: true; the input reads as it did. -/
def fnExactUnescapeBytesSpec : ChangeSpec := { name := "fnExactUnescapeBytes", fn := fun _ => fun
  | [d1, d2] => { results := [.lit (.bool true)], args := [d1, d2] }
  | _ => none }
def fnExactUnescapeBytesRow : OpenClaim := { program := "ytjmaapbodacggaa", sum := "be0b55a74615c7dabb303c2338b8a28c19743f75352e51d29e20ba937db38f92", func := "loop.example/g01142/laws.FnExactUnescapeBytes", spec := "fnExactUnescapeBytes", unfollowed := true, recurses := true, apart := false }
def FnExactUnescapeBytesSaid : Prop := fnExactUnescapeBytesRow.holds Try.pinned (OpenSpec.ofChange fnExactUnescapeBytesSpec)

/-- ITS FALSE NEIGHBOUR: 'it returns false'. Refute it at one input. -/
def fnExactUnescapeBytesWrong : ChangeSpec := { name := "fnExactUnescapeBytes", fn := fun _ => fun
  | [d1, d2] => { results := [.lit (.bool false)], args := [d1, d2] }
  | _ => none }
def FnExactUnescapeBytesWrongFalsely : Prop := fnExactUnescapeBytesRow.holds Try.pinned (OpenSpec.ofChange fnExactUnescapeBytesWrong)

/-- 'laws.FnEscaped': WHATEVER THE INPUT: true; the input reads as it did. -/
def fnEscapedSpec : ChangeSpec := { name := "fnEscaped", fn := fun _ => fun
  | [d1, d2] => { results := [.lit (.bool true)], args := [d1, d2] }
  | _ => none }
def fnEscapedRow : OpenClaim := { program := "ytjmaapbodacggaa", sum := "be0b55a74615c7dabb303c2338b8a28c19743f75352e51d29e20ba937db38f92", func := "loop.example/g01142/laws.FnEscaped", spec := "fnEscaped", unfollowed := true, recurses := true, apart := false }
def FnEscapedSaid : Prop := fnEscapedRow.holds Try.pinned (OpenSpec.ofChange fnEscapedSpec)

/-- ITS FALSE NEIGHBOUR: 'it returns false'. Refute it at one input. -/
def fnEscapedWrong : ChangeSpec := { name := "fnEscaped", fn := fun _ => fun
  | [d1, d2] => { results := [.lit (.bool false)], args := [d1, d2] }
  | _ => none }
def FnEscapedWrongFalsely : Prop := fnEscapedRow.holds Try.pinned (OpenSpec.ofChange fnEscapedWrong)

/-- 'laws.FnExactValidScrambler': WHATEVER THE INPUT: true; the input reads as it did. -/
def fnExactValidScramblerSpec : ChangeSpec := { name := "fnExactValidScrambler", fn := fun _ => fun
  | [d] => { results := [.lit (.bool true)], args := [d] }
  | _ => none }
def fnExactValidScramblerRow : OpenClaim := { program := "ytjmaapbodacggaa", sum := "be0b55a74615c7dabb303c2338b8a28c19743f75352e51d29e20ba937db38f92", func := "loop.example/g01142/laws.FnExactValidScrambler", spec := "fnExactValidScrambler", apart := false }
def FnExactValidScramblerSaid : Prop := fnExactValidScramblerRow.holds Try.pinned (OpenSpec.ofChange fnExactValidScramblerSpec)

/-- ITS FALSE NEIGHBOUR: 'it returns false'. Refute it at one input. -/
def fnExactValidScramblerWrong : ChangeSpec := { name := "fnExactValidScrambler", fn := fun _ => fun
  | [d] => { results := [.lit (.bool false)], args := [d] }
  | _ => none }
def FnExactValidScramblerWrongFalsely : Prop := fnExactValidScramblerRow.holds Try.pinned (OpenSpec.ofChange fnExactValidScramblerWrong)

/-- 'laws.FnExactSelfScramble': WHATEVER THE INPUT: true; the input reads as it did. -/
def fnExactSelfScrambleSpec : ChangeSpec := { name := "fnExactSelfScramble", fn := fun _ => fun
  | [d1, d2] => { results := [.lit (.bool true)], args := [d1, d2] }
  | _ => none }
def fnExactSelfScrambleRow : OpenClaim := { program := "ytjmaapbodacggaa", sum := "be0b55a74615c7dabb303c2338b8a28c19743f75352e51d29e20ba937db38f92", func := "loop.example/g01142/laws.FnExactSelfScramble", spec := "fnExactSelfScramble", inPlace := ["internal/abi.NoEscape"], unfollowed := true, recurses := true, apart := false }
def FnExactSelfScrambleSaid : Prop := fnExactSelfScrambleRow.holds Try.pinned (OpenSpec.ofChange fnExactSelfScrambleSpec)

/-- ITS FALSE NEIGHBOUR: 'it returns false'. Refute it at one input. -/
def fnExactSelfScrambleWrong : ChangeSpec := { name := "fnExactSelfScramble", fn := fun _ => fun
  | [d1, d2] => { results := [.lit (.bool false)], args := [d1, d2] }
  | _ => none }
def FnExactSelfScrambleWrongFalsely : Prop := fnExactSelfScrambleRow.holds Try.pinned (OpenSpec.ofChange fnExactSelfScrambleWrong)

/-- 'laws.FnExactSelfDescramble': WHATEVER THE INPUT: true; the input reads as it did. -/
def fnExactSelfDescrambleSpec : ChangeSpec := { name := "fnExactSelfDescramble", fn := fun _ => fun
  | [d1, d2] => { results := [.lit (.bool true)], args := [d1, d2] }
  | _ => none }
def fnExactSelfDescrambleRow : OpenClaim := { program := "ytjmaapbodacggaa", sum := "be0b55a74615c7dabb303c2338b8a28c19743f75352e51d29e20ba937db38f92", func := "loop.example/g01142/laws.FnExactSelfDescramble", spec := "fnExactSelfDescramble", inPlace := ["internal/abi.NoEscape"], unfollowed := true, recurses := true, apart := false }
def FnExactSelfDescrambleSaid : Prop := fnExactSelfDescrambleRow.holds Try.pinned (OpenSpec.ofChange fnExactSelfDescrambleSpec)

/-- ITS FALSE NEIGHBOUR: 'it returns false'. Refute it at one input. -/
def fnExactSelfDescrambleWrong : ChangeSpec := { name := "fnExactSelfDescramble", fn := fun _ => fun
  | [d1, d2] => { results := [.lit (.bool false)], args := [d1, d2] }
  | _ => none }
def FnExactSelfDescrambleWrongFalsely : Prop := fnExactSelfDescrambleRow.holds Try.pinned (OpenSpec.ofChange fnExactSelfDescrambleWrong)

/-- 'laws.FnExactSpreadOf': WHATEVER THE INPUT: true; the input reads as it did. -/
def fnExactSpreadOfSpec : ChangeSpec := { name := "fnExactSpreadOf", fn := fun _ => fun
  | [d] => { results := [.lit (.bool true)], args := [d] }
  | _ => none }
def fnExactSpreadOfRow : OpenClaim := { program := "ytjmaapbodacggaa", sum := "be0b55a74615c7dabb303c2338b8a28c19743f75352e51d29e20ba937db38f92", func := "loop.example/g01142/laws.FnExactSpreadOf", spec := "fnExactSpreadOf", apart := false }
def FnExactSpreadOfSaid : Prop := fnExactSpreadOfRow.holds Try.pinned (OpenSpec.ofChange fnExactSpreadOfSpec)

/-- ITS FALSE NEIGHBOUR: 'it returns false'. Refute it at one input. -/
def fnExactSpreadOfWrong : ChangeSpec := { name := "fnExactSpreadOf", fn := fun _ => fun
  | [d] => { results := [.lit (.bool false)], args := [d] }
  | _ => none }
def FnExactSpreadOfWrongFalsely : Prop := fnExactSpreadOfRow.holds Try.pinned (OpenSpec.ofChange fnExactSpreadOfWrong)

/-- 'laws.FnExactAddScramble': WHATEVER THE INPUT: true; the input reads as it did. -/
def fnExactAddScrambleSpec : ChangeSpec := { name := "fnExactAddScramble", fn := fun _ => fun
  | [d1, d2] => { results := [.lit (.bool true)], args := [d1, d2] }
  | _ => none }
def fnExactAddScrambleRow : OpenClaim := { program := "ytjmaapbodacggaa", sum := "be0b55a74615c7dabb303c2338b8a28c19743f75352e51d29e20ba937db38f92", func := "loop.example/g01142/laws.FnExactAddScramble", spec := "fnExactAddScramble", inPlace := ["internal/abi.NoEscape"], unfollowed := true, recurses := true, apart := false }
def FnExactAddScrambleSaid : Prop := fnExactAddScrambleRow.holds Try.pinned (OpenSpec.ofChange fnExactAddScrambleSpec)

/-- ITS FALSE NEIGHBOUR: 'it returns false'. Refute it at one input. -/
def fnExactAddScrambleWrong : ChangeSpec := { name := "fnExactAddScramble", fn := fun _ => fun
  | [d1, d2] => { results := [.lit (.bool false)], args := [d1, d2] }
  | _ => none }
def FnExactAddScrambleWrongFalsely : Prop := fnExactAddScrambleRow.holds Try.pinned (OpenSpec.ofChange fnExactAddScrambleWrong)

/-- 'laws.FnExactKeyBits': WHATEVER THE INPUT: true; the input reads as it did. -/
def fnExactKeyBitsSpec : ChangeSpec := { name := "fnExactKeyBits", fn := fun _ => fun
  | [d1, d2] => { results := [.lit (.bool true)], args := [d1, d2] }
  | _ => none }
def fnExactKeyBitsRow : OpenClaim := { program := "ytjmaapbodacggaa", sum := "be0b55a74615c7dabb303c2338b8a28c19743f75352e51d29e20ba937db38f92", func := "loop.example/g01142/laws.FnExactKeyBits", spec := "fnExactKeyBits", inPlace := ["internal/abi.NoEscape"], unfollowed := true, recurses := true, apart := false }
def FnExactKeyBitsSaid : Prop := fnExactKeyBitsRow.holds Try.pinned (OpenSpec.ofChange fnExactKeyBitsSpec)

/-- ITS FALSE NEIGHBOUR: 'it returns false'. Refute it at one input. -/
def fnExactKeyBitsWrong : ChangeSpec := { name := "fnExactKeyBits", fn := fun _ => fun
  | [d1, d2] => { results := [.lit (.bool false)], args := [d1, d2] }
  | _ => none }
def FnExactKeyBitsWrongFalsely : Prop := fnExactKeyBitsRow.holds Try.pinned (OpenSpec.ofChange fnExactKeyBitsWrong)

/- THE SECOND FORM. 'bulk': how many values and letters a reading holds, each counted each time it is reached (what is shared counts as often as it is met; a slice's spare places count too). A statement '..UptoSaid' is the law's where the arguments, and the package variables that the reading takes, are together of bulk at most 1048576: NARROWER than '..Said'. Prove '..Said' where nothing that the law and all that it calls make is longer than what came in: it says more and counts as full. Else prove '..UptoSaid'. A law counts once. -/
mutual
def uptoBulk {H : Type} : DataW H → Nat
  | .lit (.string bytes) => bytes.length + 1
  | .lit _ => 1
  | .nil => 1
  | .ptr d => uptoBulk d + 1
  | .slice elems spare => uptoBulkAll elems + uptoBulkAll spare + 1
  | .agg parts => uptoBulkAll parts + 1
  | .iface _ d => uptoBulk d + 1
  | .map entries => uptoBulkEntries entries + 1
  | .held _ => 1
def uptoBulkAll {H : Type} : List (DataW H) → Nat
  | [] => 0
  | d :: r => uptoBulk d + uptoBulkAll r
def uptoBulkEntries {H : Type} : List (Lit × DataW H) → Nat
  | [] => 0
  | x :: r => uptoBulkEntry x + uptoBulkEntries r
def uptoBulkEntry {H : Type} : Lit × DataW H → Nat
  | (.string bytes, d) => bytes.length + uptoBulk d + 1
  | (_, d) => uptoBulk d + 1
 end
def uptoSmall : (H : Type) → List (DataW H) → Bool := fun _ ds => decide (uptoBulkAll ds ≤ 1048576)
def OpenSpec.upto (s : _root_.Go.ChangeSpec) : _root_.Go.OpenSpec := { _root_.Go.OpenSpec.ofChange s with cond := some uptoSmall }

/-- 'laws.FnExactEdgesOf', WHERE WHAT IT READS IS OF BULK AT MOST 1048576: true; the input reads as it did. -/
def fnExactEdgesOfUptoRow : OpenClaim := { program := "ytjmaapbodacggaa", sum := "be0b55a74615c7dabb303c2338b8a28c19743f75352e51d29e20ba937db38f92", func := "loop.example/g01142/laws.FnExactEdgesOf", spec := "fnExactEdgesOf", apart := false, narrowed := true }
def FnExactEdgesOfUptoSaid : Prop := fnExactEdgesOfUptoRow.holds Try.pinned (OpenSpec.upto fnExactEdgesOfSpec)

/-- 'laws.FnExactLongestSame', WHERE WHAT IT READS IS OF BULK AT MOST 1048576: true; the input reads as it did. -/
def fnExactLongestSameUptoRow : OpenClaim := { program := "ytjmaapbodacggaa", sum := "be0b55a74615c7dabb303c2338b8a28c19743f75352e51d29e20ba937db38f92", func := "loop.example/g01142/laws.FnExactLongestSame", spec := "fnExactLongestSame", apart := false, narrowed := true }
def FnExactLongestSameUptoSaid : Prop := fnExactLongestSameUptoRow.holds Try.pinned (OpenSpec.upto fnExactLongestSameSpec)

/-- 'laws.FnExactFlipEffect', WHERE WHAT IT READS IS OF BULK AT MOST 1048576: true; the input reads as it did. -/
def fnExactFlipEffectUptoRow : OpenClaim := { program := "ytjmaapbodacggaa", sum := "be0b55a74615c7dabb303c2338b8a28c19743f75352e51d29e20ba937db38f92", func := "loop.example/g01142/laws.FnExactFlipEffect", spec := "fnExactFlipEffect", inPlace := ["internal/bytealg.CountString", "internal/bytealg.IndexByteString", "internal/bytealg.IndexString", "internal/abi.NoEscape"], named := ["internal/bytealg.MaxLen"], apart := false, narrowed := true }
def FnExactFlipEffectUptoSaid : Prop := fnExactFlipEffectUptoRow.holds Try.pinned (OpenSpec.upto fnExactFlipEffectSpec)

/-- 'laws.FnExactEscapeBytes', WHERE WHAT IT READS IS OF BULK AT MOST 1048576: true; the input reads as it did. -/
def fnExactEscapeBytesUptoRow : OpenClaim := { program := "ytjmaapbodacggaa", sum := "be0b55a74615c7dabb303c2338b8a28c19743f75352e51d29e20ba937db38f92", func := "loop.example/g01142/laws.FnExactEscapeBytes", spec := "fnExactEscapeBytes", apart := false, narrowed := true }
def FnExactEscapeBytesUptoSaid : Prop := fnExactEscapeBytesUptoRow.holds Try.pinned (OpenSpec.upto fnExactEscapeBytesSpec)

/-- 'laws.FnExactUnescapeBytes', WHERE WHAT IT READS IS OF BULK AT MOST 1048576: true; the input reads as it did. -/
def fnExactUnescapeBytesUptoRow : OpenClaim := { program := "ytjmaapbodacggaa", sum := "be0b55a74615c7dabb303c2338b8a28c19743f75352e51d29e20ba937db38f92", func := "loop.example/g01142/laws.FnExactUnescapeBytes", spec := "fnExactUnescapeBytes", unfollowed := true, recurses := true, apart := false, narrowed := true }
def FnExactUnescapeBytesUptoSaid : Prop := fnExactUnescapeBytesUptoRow.holds Try.pinned (OpenSpec.upto fnExactUnescapeBytesSpec)

/-- 'laws.FnEscaped', WHERE WHAT IT READS IS OF BULK AT MOST 1048576: true; the input reads as it did. -/
def fnEscapedUptoRow : OpenClaim := { program := "ytjmaapbodacggaa", sum := "be0b55a74615c7dabb303c2338b8a28c19743f75352e51d29e20ba937db38f92", func := "loop.example/g01142/laws.FnEscaped", spec := "fnEscaped", unfollowed := true, recurses := true, apart := false, narrowed := true }
def FnEscapedUptoSaid : Prop := fnEscapedUptoRow.holds Try.pinned (OpenSpec.upto fnEscapedSpec)

/-- 'laws.FnExactValidScrambler', WHERE WHAT IT READS IS OF BULK AT MOST 1048576: true; the input reads as it did. -/
def fnExactValidScramblerUptoRow : OpenClaim := { program := "ytjmaapbodacggaa", sum := "be0b55a74615c7dabb303c2338b8a28c19743f75352e51d29e20ba937db38f92", func := "loop.example/g01142/laws.FnExactValidScrambler", spec := "fnExactValidScrambler", apart := false, narrowed := true }
def FnExactValidScramblerUptoSaid : Prop := fnExactValidScramblerUptoRow.holds Try.pinned (OpenSpec.upto fnExactValidScramblerSpec)

/-- 'laws.FnExactSelfScramble', WHERE WHAT IT READS IS OF BULK AT MOST 1048576: true; the input reads as it did. -/
def fnExactSelfScrambleUptoRow : OpenClaim := { program := "ytjmaapbodacggaa", sum := "be0b55a74615c7dabb303c2338b8a28c19743f75352e51d29e20ba937db38f92", func := "loop.example/g01142/laws.FnExactSelfScramble", spec := "fnExactSelfScramble", inPlace := ["internal/abi.NoEscape"], unfollowed := true, recurses := true, apart := false, narrowed := true }
def FnExactSelfScrambleUptoSaid : Prop := fnExactSelfScrambleUptoRow.holds Try.pinned (OpenSpec.upto fnExactSelfScrambleSpec)

/-- 'laws.FnExactSelfDescramble', WHERE WHAT IT READS IS OF BULK AT MOST 1048576: true; the input reads as it did. -/
def fnExactSelfDescrambleUptoRow : OpenClaim := { program := "ytjmaapbodacggaa", sum := "be0b55a74615c7dabb303c2338b8a28c19743f75352e51d29e20ba937db38f92", func := "loop.example/g01142/laws.FnExactSelfDescramble", spec := "fnExactSelfDescramble", inPlace := ["internal/abi.NoEscape"], unfollowed := true, recurses := true, apart := false, narrowed := true }
def FnExactSelfDescrambleUptoSaid : Prop := fnExactSelfDescrambleUptoRow.holds Try.pinned (OpenSpec.upto fnExactSelfDescrambleSpec)

/-- 'laws.FnExactSpreadOf', WHERE WHAT IT READS IS OF BULK AT MOST 1048576: true; the input reads as it did. -/
def fnExactSpreadOfUptoRow : OpenClaim := { program := "ytjmaapbodacggaa", sum := "be0b55a74615c7dabb303c2338b8a28c19743f75352e51d29e20ba937db38f92", func := "loop.example/g01142/laws.FnExactSpreadOf", spec := "fnExactSpreadOf", apart := false, narrowed := true }
def FnExactSpreadOfUptoSaid : Prop := fnExactSpreadOfUptoRow.holds Try.pinned (OpenSpec.upto fnExactSpreadOfSpec)

/-- 'laws.FnExactAddScramble', WHERE WHAT IT READS IS OF BULK AT MOST 1048576: true; the input reads as it did. -/
def fnExactAddScrambleUptoRow : OpenClaim := { program := "ytjmaapbodacggaa", sum := "be0b55a74615c7dabb303c2338b8a28c19743f75352e51d29e20ba937db38f92", func := "loop.example/g01142/laws.FnExactAddScramble", spec := "fnExactAddScramble", inPlace := ["internal/abi.NoEscape"], unfollowed := true, recurses := true, apart := false, narrowed := true }
def FnExactAddScrambleUptoSaid : Prop := fnExactAddScrambleUptoRow.holds Try.pinned (OpenSpec.upto fnExactAddScrambleSpec)

/-- 'laws.FnExactKeyBits', WHERE WHAT IT READS IS OF BULK AT MOST 1048576: true; the input reads as it did. -/
def fnExactKeyBitsUptoRow : OpenClaim := { program := "ytjmaapbodacggaa", sum := "be0b55a74615c7dabb303c2338b8a28c19743f75352e51d29e20ba937db38f92", func := "loop.example/g01142/laws.FnExactKeyBits", spec := "fnExactKeyBits", inPlace := ["internal/abi.NoEscape"], unfollowed := true, recurses := true, apart := false, narrowed := true }
def FnExactKeyBitsUptoSaid : Prop := fnExactKeyBitsUptoRow.holds Try.pinned (OpenSpec.upto fnExactKeyBitsSpec)

end Rows
end Go.Proofs.Ytjmaapbodacggaa
