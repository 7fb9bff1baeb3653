/-
  No cell of these rows narrows 'for every input' (looked for: loops, veiled, ifaces, maps, wideKeys, modest, calm, conditions, laid).
  DERIVED. THE GIVEN ROWS OF THIS SEAT. 7 by the template 'for every input the law returns true; each argument reads behind the call as it read before'; 0 by the template 'total and deterministic' (their statements: YtlhiiilibfkmpabTotals.lean).
  GIVEN WITH THE SEED: the statements are not yours to turn. If you find one false, say at which input.
  Laid BY PROGRAM, IN A SANDBOX (cutbox-rows.mjs): the forced cells as the released guide's own fill.sh prints them over the translation 6d1da981421d74b1… (all of the seat's roots in one cut). By AI agents, Wed Nov 11 2026. No macro, syntax, notation, axiom, sorry.
-/
import Derived.Test.YtlhiiilibfkmpabChecked
import GoSem.Claim
import GoSem.ClaimJoined
import GoSem.ClaimMapViews
import Derived.JoinedTies
import Derived.KernelRfl
namespace Go.Proofs.Ytlhiiilibfkmpab
/- THE CELL 'sum', in the pinned program and in every row, IS THE sha256 OF THE DUMP (.gsa) THAT YtlhiiilibfkmpabProg.lean LOADS. Nothing in Lean hashes anything: it is a label: what it is worth is what the hold of that sum in a sandbox is worth. -/
noncomputable def Try.pinned : Pinned := { name := "ytlhiiilibfkmpab", sum := "6d1da981421d74b1cc8471665e4bdab67d1c2ef480033d1073277436defe8524", checked := Try.checked }
namespace Rows
def none {H : Type} : Left H := { results := [], args := [] }

/-- 'laws.FnExactFindKey': WHATEVER THE INPUT: true; the input reads as it did. -/
def fnExactFindKeySpec : ChangeSpec := { name := "fnExactFindKey", fn := fun _ => fun
  | [d1, d2, d3] => { results := [.lit (.bool true)], args := [d1, d2, d3] }
  | _ => none }
def fnExactFindKeyRow : OpenClaim := { program := "ytlhiiilibfkmpab", sum := "6d1da981421d74b1cc8471665e4bdab67d1c2ef480033d1073277436defe8524", func := "loop.example/g01142/laws.FnExactFindKey", spec := "fnExactFindKey", inPlace := ["internal/abi.NoEscape"], unfollowed := true, recurses := true, apart := false }
def FnExactFindKeySaid : Prop := fnExactFindKeyRow.holds Try.pinned (OpenSpec.ofChange fnExactFindKeySpec)

/-- ITS FALSE NEIGHBOUR: 'it returns false'. Refute it at one input. -/
def fnExactFindKeyWrong : ChangeSpec := { name := "fnExactFindKey", fn := fun _ => fun
  | [d1, d2, d3] => { results := [.lit (.bool false)], args := [d1, d2, d3] }
  | _ => none }
def FnExactFindKeyWrongFalsely : Prop := fnExactFindKeyRow.holds Try.pinned (OpenSpec.ofChange fnExactFindKeyWrong)

/-- 'laws.FnExactLongestSame': WHATEVER THE INPUT: true; the input reads as it did. -/
def fnExactLongestSameSpec : ChangeSpec := { name := "fnExactLongestSame", fn := fun _ => fun
  | [d] => { results := [.lit (.bool true)], args := [d] }
  | _ => none }
def fnExactLongestSameRow : OpenClaim := { program := "ytlhiiilibfkmpab", sum := "6d1da981421d74b1cc8471665e4bdab67d1c2ef480033d1073277436defe8524", func := "loop.example/g01142/laws.FnExactLongestSame", spec := "fnExactLongestSame", apart := false }
def FnExactLongestSameSaid : Prop := fnExactLongestSameRow.holds Try.pinned (OpenSpec.ofChange fnExactLongestSameSpec)

/-- ITS FALSE NEIGHBOUR: 'it returns false'. Refute it at one input. -/
def fnExactLongestSameWrong : ChangeSpec := { name := "fnExactLongestSame", fn := fun _ => fun
  | [d] => { results := [.lit (.bool false)], args := [d] }
  | _ => none }
def FnExactLongestSameWrongFalsely : Prop := fnExactLongestSameRow.holds Try.pinned (OpenSpec.ofChange fnExactLongestSameWrong)

/-- 'laws.FnExactMakeBlockCode': WHATEVER THE INPUT: true; the input reads as it did. -/
def fnExactMakeBlockCodeSpec : ChangeSpec := { name := "fnExactMakeBlockCode", fn := fun _ => fun
  | [d1, d2] => { results := [.lit (.bool true)], args := [d1, d2] }
  | _ => none }
def fnExactMakeBlockCodeRow : OpenClaim := { program := "ytlhiiilibfkmpab", sum := "6d1da981421d74b1cc8471665e4bdab67d1c2ef480033d1073277436defe8524", func := "loop.example/g01142/laws.FnExactMakeBlockCode", spec := "fnExactMakeBlockCode", inPlace := ["internal/abi.NoEscape", "internal/bytealg.MakeNoZero", "internal/bytealg.CountString", "internal/bytealg.IndexByteString", "internal/bytealg.IndexString"], named := ["internal/bytealg.MaxLen"], apart := false }
def FnExactMakeBlockCodeSaid : Prop := fnExactMakeBlockCodeRow.holds Try.pinned (OpenSpec.ofChange fnExactMakeBlockCodeSpec)

/-- ITS FALSE NEIGHBOUR: 'it returns false'. Refute it at one input. -/
def fnExactMakeBlockCodeWrong : ChangeSpec := { name := "fnExactMakeBlockCode", fn := fun _ => fun
  | [d1, d2] => { results := [.lit (.bool false)], args := [d1, d2] }
  | _ => none }
def FnExactMakeBlockCodeWrongFalsely : Prop := fnExactMakeBlockCodeRow.holds Try.pinned (OpenSpec.ofChange fnExactMakeBlockCodeWrong)

/-- 'laws.FnExactCanonicalWords': WHATEVER THE INPUT: true; the input reads as it did. -/
def fnExactCanonicalWordsSpec : ChangeSpec := { name := "fnExactCanonicalWords", fn := fun _ => fun
  | [d] => { results := [.lit (.bool true)], args := [d] }
  | _ => none }
def fnExactCanonicalWordsRow : OpenClaim := { program := "ytlhiiilibfkmpab", sum := "6d1da981421d74b1cc8471665e4bdab67d1c2ef480033d1073277436defe8524", func := "loop.example/g01142/laws.FnExactCanonicalWords", spec := "fnExactCanonicalWords", unfollowed := true, recurses := true, apart := false }
def FnExactCanonicalWordsSaid : Prop := fnExactCanonicalWordsRow.holds Try.pinned (OpenSpec.ofChange fnExactCanonicalWordsSpec)

/-- ITS FALSE NEIGHBOUR: 'it returns false'. Refute it at one input. -/
def fnExactCanonicalWordsWrong : ChangeSpec := { name := "fnExactCanonicalWords", fn := fun _ => fun
  | [d] => { results := [.lit (.bool false)], args := [d] }
  | _ => none }
def FnExactCanonicalWordsWrongFalsely : Prop := fnExactCanonicalWordsRow.holds Try.pinned (OpenSpec.ofChange fnExactCanonicalWordsWrong)

/-- 'laws.FnCommas': WHATEVER THE INPUT: true; the input reads as it did. -/
def fnCommasSpec : ChangeSpec := { name := "fnCommas", fn := fun _ => fun
  | [d1, d2] => { results := [.lit (.bool true)], args := [d1, d2] }
  | _ => none }
def fnCommasRow : OpenClaim := { program := "ytlhiiilibfkmpab", sum := "6d1da981421d74b1cc8471665e4bdab67d1c2ef480033d1073277436defe8524", func := "loop.example/g01142/laws.FnCommas", spec := "fnCommas", inPlace := ["internal/bytealg.CountString", "internal/bytealg.IndexByteString", "internal/bytealg.IndexString", "internal/bytealg.IndexByte", "internal/bytealg.Index"], unfollowed := true, recurses := true, named := ["internal/bytealg.MaxLen"], apart := false }
def FnCommasSaid : Prop := fnCommasRow.holds Try.pinned (OpenSpec.ofChange fnCommasSpec)

/-- ITS FALSE NEIGHBOUR: 'it returns false'. Refute it at one input. -/
def fnCommasWrong : ChangeSpec := { name := "fnCommas", fn := fun _ => fun
  | [d1, d2] => { results := [.lit (.bool false)], args := [d1, d2] }
  | _ => none }
def FnCommasWrongFalsely : Prop := fnCommasRow.holds Try.pinned (OpenSpec.ofChange fnCommasWrong)

/-- 'laws.FnExactRunBound': WHATEVER THE INPUT: true; the input reads as it did. -/
def fnExactRunBoundSpec : ChangeSpec := { name := "fnExactRunBound", fn := fun _ => fun
  | [d] => { results := [.lit (.bool true)], args := [d] }
  | _ => none }
def fnExactRunBoundRow : OpenClaim := { program := "ytlhiiilibfkmpab", sum := "6d1da981421d74b1cc8471665e4bdab67d1c2ef480033d1073277436defe8524", func := "loop.example/g01142/laws.FnExactRunBound", spec := "fnExactRunBound", inPlace := ["internal/bytealg.CountString", "internal/bytealg.IndexByteString", "internal/bytealg.IndexString"], unfollowed := true, recurses := true, named := ["internal/bytealg.MaxLen"], apart := false }
def FnExactRunBoundSaid : Prop := fnExactRunBoundRow.holds Try.pinned (OpenSpec.ofChange fnExactRunBoundSpec)

/-- ITS FALSE NEIGHBOUR: 'it returns false'. Refute it at one input. -/
def fnExactRunBoundWrong : ChangeSpec := { name := "fnExactRunBound", fn := fun _ => fun
  | [d] => { results := [.lit (.bool false)], args := [d] }
  | _ => none }
def FnExactRunBoundWrongFalsely : Prop := fnExactRunBoundRow.holds Try.pinned (OpenSpec.ofChange fnExactRunBoundWrong)

/-- 'laws.FnExactIsDecodable': WHATEVER THE INPUT: true; the input reads as it did. -/
def fnExactIsDecodableSpec : ChangeSpec := { name := "fnExactIsDecodable", fn := fun _ => fun
  | [d] => { results := [.lit (.bool true)], args := [d] }
  | _ => none }
def fnExactIsDecodableRow : OpenClaim := { program := "ytlhiiilibfkmpab", sum := "6d1da981421d74b1cc8471665e4bdab67d1c2ef480033d1073277436defe8524", func := "loop.example/g01142/laws.FnExactIsDecodable", spec := "fnExactIsDecodable", unfollowed := true, recurses := true, apart := false }
def FnExactIsDecodableSaid : Prop := fnExactIsDecodableRow.holds Try.pinned (OpenSpec.ofChange fnExactIsDecodableSpec)

/-- ITS FALSE NEIGHBOUR: 'it returns false'. Refute it at one input. -/
def fnExactIsDecodableWrong : ChangeSpec := { name := "fnExactIsDecodable", fn := fun _ => fun
  | [d] => { results := [.lit (.bool false)], args := [d] }
  | _ => none }
def FnExactIsDecodableWrongFalsely : Prop := fnExactIsDecodableRow.holds Try.pinned (OpenSpec.ofChange fnExactIsDecodableWrong)

/- THE SECOND FORM. 'bulk': how many values and letters a reading holds, each counted each time it is reached (what is shared counts as often as it is met; a slice's spare places count too). A statement '..UptoSaid' is the law's where the arguments, and the package variables that the reading takes, are together of bulk at most 1048576: NARROWER than '..Said'. Prove '..Said' where nothing that the law and all that it calls make is longer than what came in: it says more and counts as full. Else prove '..UptoSaid'. A law counts once. -/
mutual
def uptoBulk {H : Type} : DataW H → Nat
  | .lit (.string bytes) => bytes.length + 1
  | .lit _ => 1
  | .nil => 1
  | .ptr d => uptoBulk d + 1
  | .slice elems spare => uptoBulkAll elems + uptoBulkAll spare + 1
  | .agg parts => uptoBulkAll parts + 1
  | .iface _ d => uptoBulk d + 1
  | .map entries => uptoBulkEntries entries + 1
  | .held _ => 1
def uptoBulkAll {H : Type} : List (DataW H) → Nat
  | [] => 0
  | d :: r => uptoBulk d + uptoBulkAll r
def uptoBulkEntries {H : Type} : List (Lit × DataW H) → Nat
  | [] => 0
  | x :: r => uptoBulkEntry x + uptoBulkEntries r
def uptoBulkEntry {H : Type} : Lit × DataW H → Nat
  | (.string bytes, d) => bytes.length + uptoBulk d + 1
  | (_, d) => uptoBulk d + 1
 end
def uptoSmall : (H : Type) → List (DataW H) → Bool := fun _ ds => decide (uptoBulkAll ds ≤ 1048576)
def OpenSpec.upto (s : _root_.Go.ChangeSpec) : _root_.Go.OpenSpec := { _root_.Go.OpenSpec.ofChange s with cond := some uptoSmall }

/-- 'laws.FnExactFindKey', WHERE WHAT IT READS IS OF BULK AT MOST 1048576: true; the input reads as it did. -/
def fnExactFindKeyUptoRow : OpenClaim := { program := "ytlhiiilibfkmpab", sum := "6d1da981421d74b1cc8471665e4bdab67d1c2ef480033d1073277436defe8524", func := "loop.example/g01142/laws.FnExactFindKey", spec := "fnExactFindKey", inPlace := ["internal/abi.NoEscape"], unfollowed := true, recurses := true, apart := false, narrowed := true }
def FnExactFindKeyUptoSaid : Prop := fnExactFindKeyUptoRow.holds Try.pinned (OpenSpec.upto fnExactFindKeySpec)

/-- 'laws.FnExactLongestSame', WHERE WHAT IT READS IS OF BULK AT MOST 1048576: true; the input reads as it did. -/
def fnExactLongestSameUptoRow : OpenClaim := { program := "ytlhiiilibfkmpab", sum := "6d1da981421d74b1cc8471665e4bdab67d1c2ef480033d1073277436defe8524", func := "loop.example/g01142/laws.FnExactLongestSame", spec := "fnExactLongestSame", apart := false, narrowed := true }
def FnExactLongestSameUptoSaid : Prop := fnExactLongestSameUptoRow.holds Try.pinned (OpenSpec.upto fnExactLongestSameSpec)

/-- 'laws.FnExactMakeBlockCode', WHERE WHAT IT READS IS OF BULK AT MOST 1048576: true; the input reads as it did. -/
def fnExactMakeBlockCodeUptoRow : OpenClaim := { program := "ytlhiiilibfkmpab", sum := "6d1da981421d74b1cc8471665e4bdab67d1c2ef480033d1073277436defe8524", func := "loop.example/g01142/laws.FnExactMakeBlockCode", spec := "fnExactMakeBlockCode", inPlace := ["internal/abi.NoEscape", "internal/bytealg.MakeNoZero", "internal/bytealg.CountString", "internal/bytealg.IndexByteString", "internal/bytealg.IndexString"], named := ["internal/bytealg.MaxLen"], apart := false, narrowed := true }
def FnExactMakeBlockCodeUptoSaid : Prop := fnExactMakeBlockCodeUptoRow.holds Try.pinned (OpenSpec.upto fnExactMakeBlockCodeSpec)

/-- 'laws.FnExactCanonicalWords', WHERE WHAT IT READS IS OF BULK AT MOST 1048576: true; the input reads as it did. -/
def fnExactCanonicalWordsUptoRow : OpenClaim := { program := "ytlhiiilibfkmpab", sum := "6d1da981421d74b1cc8471665e4bdab67d1c2ef480033d1073277436defe8524", func := "loop.example/g01142/laws.FnExactCanonicalWords", spec := "fnExactCanonicalWords", unfollowed := true, recurses := true, apart := false, narrowed := true }
def FnExactCanonicalWordsUptoSaid : Prop := fnExactCanonicalWordsUptoRow.holds Try.pinned (OpenSpec.upto fnExactCanonicalWordsSpec)

/-- 'laws.FnCommas', WHERE WHAT IT READS IS OF BULK AT MOST 1048576: true; the input reads as it did. -/
def fnCommasUptoRow : OpenClaim := { program := "ytlhiiilibfkmpab", sum := "6d1da981421d74b1cc8471665e4bdab67d1c2ef480033d1073277436defe8524", func := "loop.example/g01142/laws.FnCommas", spec := "fnCommas", inPlace := ["internal/bytealg.CountString", "internal/bytealg.IndexByteString", "internal/bytealg.IndexString", "internal/bytealg.IndexByte", "internal/bytealg.Index"], unfollowed := true, recurses := true, named := ["internal/bytealg.MaxLen"], apart := false, narrowed := true }
def FnCommasUptoSaid : Prop := fnCommasUptoRow.holds Try.pinned (OpenSpec.upto fnCommasSpec)

/-- 'laws.FnExactRunBound', WHERE WHAT IT READS IS OF BULK AT MOST 1048576: true; the input reads as it did. -/
def fnExactRunBoundUptoRow : OpenClaim := { program := "ytlhiiilibfkmpab", sum := "6d1da981421d74b1cc8471665e4bdab67d1c2ef480033d1073277436defe8524", func := "loop.example/g01142/laws.FnExactRunBound", spec := "fnExactRunBound", inPlace := ["internal/bytealg.CountString", "internal/bytealg.IndexByteString", "internal/bytealg.IndexString"], unfollowed := true, recurses := true, named := ["internal/bytealg.MaxLen"], apart := false, narrowed := true }
def FnExactRunBoundUptoSaid : Prop := fnExactRunBoundUptoRow.holds Try.pinned (OpenSpec.upto fnExactRunBoundSpec)

/-- 'laws.FnExactIsDecodable', WHERE WHAT IT READS IS OF BULK AT MOST 1048576: true; the input reads as it did. -/
def fnExactIsDecodableUptoRow : OpenClaim := { program := "ytlhiiilibfkmpab", sum := "6d1da981421d74b1cc8471665e4bdab67d1c2ef480033d1073277436defe8524", func := "loop.example/g01142/laws.FnExactIsDecodable", spec := "fnExactIsDecodable", unfollowed := true, recurses := true, apart := false, narrowed := true }
def FnExactIsDecodableUptoSaid : Prop := fnExactIsDecodableUptoRow.holds Try.pinned (OpenSpec.upto fnExactIsDecodableSpec)

end Rows
end Go.Proofs.Ytlhiiilibfkmpab
