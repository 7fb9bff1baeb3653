/-
  NARROWER THAN 'FOR EVERY INPUT', by the rows' own cells (each row's printed sentence says how): FnExactCheckBits: ifaces, laid · FnExactAddCheck: ifaces, laid · FnExactHasCheck: ifaces, laid · FnExactCheckOrder: ifaces, laid · FnExactCountMissed: ifaces, laid · FnExactLeastMissed: ifaces, laid · FnChecks: ifaces, laid · FnMissed: ifaces, laid · FnBursts: ifaces, laid.
  DERIVED. THE GIVEN ROWS OF THIS SEAT. 9 by the template 'for every input the law returns true; each argument reads behind the call as it read before'; 0 by the template 'total and deterministic' (their statements: YtkgfmpkpeipddabDoorTotals.lean).
  GIVEN WITH THE SEED: the statements are not yours to turn. If you find one false, say at which input.
  Laid BY PROGRAM, IN A SANDBOX (cutbox-rows.mjs): the forced cells as the released guide's own fill.sh prints them over the translation 6d0fa60eda703359… (all of the seat's roots in one cut). By AI agents, Wed Nov 11 2026. No macro, syntax, notation, axiom, sorry.
-/
import Derived.Test.YtkgfmpkpeipddabDoorChecked
import GoSem.Claim
import GoSem.ClaimJoined
import GoSem.ClaimMapViews
import Derived.JoinedTies
import Derived.KernelRfl
namespace Go.Proofs.YtkgfmpkpeipddabDoor
/- THE CELL 'sum', in the pinned program and in every row, IS THE sha256 OF THE DUMP (.gsa) THAT YtkgfmpkpeipddabDoorProg.lean LOADS. Nothing in Lean hashes anything: it is a label: what it is worth is what the hold of that sum in a sandbox is worth. -/
noncomputable def Tryd.pinned : Pinned := { name := "ytkgfmpkpeipddabdoor", sum := "6d0fa60eda703359a76e735eebc14afe623d2cfbd574fd8dd1c6ada64c56bc08", checked := Tryd.checked }
namespace Rows
def none {H : Type} : Left H := { results := [], args := [] }

/- WHAT THE LISTED PACKAGE-LEVEL VARIABLES READ AS WHEN THE CALL BEGINS. Each datum BY PROGRAM (the guide's laid-datum.mjs) off the statement by which the dump's own 'gosem.cut.vars' lays the variable. In a bare row this is a premise. The card (YtkgfmpkpeipddabDoorCards.lean) ties it to the program's text. -/
def laid_loop_example_g01142_impl_errInvalid {H : Type} : DataW H := .iface "*errors.errorString" (.ptr (.agg [.lit (.string [97, 110, 32, 97, 114, 103, 117, 109, 101, 110, 116, 32, 105, 115, 32, 110, 111, 116, 32, 97, 115, 32, 105, 116, 32, 109, 117, 115, 116, 32, 98, 101])]))
def laid_loop_example_g01142_impl_errNone {H : Type} : DataW H := .iface "*errors.errorString" (.ptr (.agg [.lit (.string [116, 104, 101, 114, 101, 32, 105, 115, 32, 110, 111, 110, 101])]))
def laid_math_bits_deBruijn64tab {H : Type} : DataW H := .agg [.lit (.int .u8 0), .lit (.int .u8 1), .lit (.int .u8 56), .lit (.int .u8 2), .lit (.int .u8 57), .lit (.int .u8 49), .lit (.int .u8 28), .lit (.int .u8 3), .lit (.int .u8 61), .lit (.int .u8 58), .lit (.int .u8 42), .lit (.int .u8 50), .lit (.int .u8 38), .lit (.int .u8 29), .lit (.int .u8 17), .lit (.int .u8 4), .lit (.int .u8 62), .lit (.int .u8 47), .lit (.int .u8 59), .lit (.int .u8 36), .lit (.int .u8 45), .lit (.int .u8 43), .lit (.int .u8 51), .lit (.int .u8 22), .lit (.int .u8 53), .lit (.int .u8 39), .lit (.int .u8 33), .lit (.int .u8 30), .lit (.int .u8 24), .lit (.int .u8 18), .lit (.int .u8 12), .lit (.int .u8 5), .lit (.int .u8 63), .lit (.int .u8 55), .lit (.int .u8 48), .lit (.int .u8 27), .lit (.int .u8 60), .lit (.int .u8 41), .lit (.int .u8 37), .lit (.int .u8 16), .lit (.int .u8 46), .lit (.int .u8 35), .lit (.int .u8 44), .lit (.int .u8 21), .lit (.int .u8 52), .lit (.int .u8 32), .lit (.int .u8 23), .lit (.int .u8 11), .lit (.int .u8 54), .lit (.int .u8 26), .lit (.int .u8 40), .lit (.int .u8 15), .lit (.int .u8 34), .lit (.int .u8 20), .lit (.int .u8 31), .lit (.int .u8 10), .lit (.int .u8 25), .lit (.int .u8 14), .lit (.int .u8 19), .lit (.int .u8 9), .lit (.int .u8 13), .lit (.int .u8 8), .lit (.int .u8 7), .lit (.int .u8 6)]

/-- 'laws.FnExactCheckBits': WHATEVER THE INPUT: true; the input reads as it did. -/
def fnExactCheckBitsSpec : ChangeSpec := { name := "fnExactCheckBits", vars := ["loop.example/g01142/impl.errInvalid"], fn := fun _ => fun
  | [d1, d2, g1] => { results := [.lit (.bool true)], args := [d1, d2], vars := [g1] }
  | _ => none }
def fnExactCheckBitsRow : OpenClaim := { program := "ytkgfmpkpeipddabdoor", sum := "6d0fa60eda703359a76e735eebc14afe623d2cfbd574fd8dd1c6ada64c56bc08", func := "loop.example/g01142/laws.FnExactCheckBits", spec := "fnExactCheckBits", named := ["loop.example/g01142/impl.errInvalid"], ifaces := true, apart := false, laid := [("loop.example/g01142/impl.errInvalid", laid_loop_example_g01142_impl_errInvalid)] }
def FnExactCheckBitsSaid : Prop := fnExactCheckBitsRow.holds Tryd.pinned (OpenSpec.ofChange fnExactCheckBitsSpec)

/-- ITS FALSE NEIGHBOUR: 'it returns false'. Refute it at one input. -/
def fnExactCheckBitsWrong : ChangeSpec := { name := "fnExactCheckBits", vars := ["loop.example/g01142/impl.errInvalid"], fn := fun _ => fun
  | [d1, d2, g1] => { results := [.lit (.bool false)], args := [d1, d2], vars := [g1] }
  | _ => none }
def FnExactCheckBitsWrongFalsely : Prop := fnExactCheckBitsRow.holds Tryd.pinned (OpenSpec.ofChange fnExactCheckBitsWrong)

/-- 'laws.FnExactAddCheck': WHATEVER THE INPUT: true; the input reads as it did. -/
def fnExactAddCheckSpec : ChangeSpec := { name := "fnExactAddCheck", vars := ["loop.example/g01142/impl.errInvalid"], fn := fun _ => fun
  | [d1, d2, g1] => { results := [.lit (.bool true)], args := [d1, d2], vars := [g1] }
  | _ => none }
def fnExactAddCheckRow : OpenClaim := { program := "ytkgfmpkpeipddabdoor", sum := "6d0fa60eda703359a76e735eebc14afe623d2cfbd574fd8dd1c6ada64c56bc08", func := "loop.example/g01142/laws.FnExactAddCheck", spec := "fnExactAddCheck", named := ["loop.example/g01142/impl.errInvalid"], ifaces := true, apart := false, laid := [("loop.example/g01142/impl.errInvalid", laid_loop_example_g01142_impl_errInvalid)] }
def FnExactAddCheckSaid : Prop := fnExactAddCheckRow.holds Tryd.pinned (OpenSpec.ofChange fnExactAddCheckSpec)

/-- ITS FALSE NEIGHBOUR: 'it returns false'. Refute it at one input. -/
def fnExactAddCheckWrong : ChangeSpec := { name := "fnExactAddCheck", vars := ["loop.example/g01142/impl.errInvalid"], fn := fun _ => fun
  | [d1, d2, g1] => { results := [.lit (.bool false)], args := [d1, d2], vars := [g1] }
  | _ => none }
def FnExactAddCheckWrongFalsely : Prop := fnExactAddCheckRow.holds Tryd.pinned (OpenSpec.ofChange fnExactAddCheckWrong)

/-- 'laws.FnExactHasCheck': WHATEVER THE INPUT: true; the input reads as it did. -/
def fnExactHasCheckSpec : ChangeSpec := { name := "fnExactHasCheck", vars := ["loop.example/g01142/impl.errInvalid"], fn := fun _ => fun
  | [d1, d2, g1] => { results := [.lit (.bool true)], args := [d1, d2], vars := [g1] }
  | _ => none }
def fnExactHasCheckRow : OpenClaim := { program := "ytkgfmpkpeipddabdoor", sum := "6d0fa60eda703359a76e735eebc14afe623d2cfbd574fd8dd1c6ada64c56bc08", func := "loop.example/g01142/laws.FnExactHasCheck", spec := "fnExactHasCheck", named := ["loop.example/g01142/impl.errInvalid"], ifaces := true, apart := false, laid := [("loop.example/g01142/impl.errInvalid", laid_loop_example_g01142_impl_errInvalid)] }
def FnExactHasCheckSaid : Prop := fnExactHasCheckRow.holds Tryd.pinned (OpenSpec.ofChange fnExactHasCheckSpec)

/-- ITS FALSE NEIGHBOUR: 'it returns false'. Refute it at one input. -/
def fnExactHasCheckWrong : ChangeSpec := { name := "fnExactHasCheck", vars := ["loop.example/g01142/impl.errInvalid"], fn := fun _ => fun
  | [d1, d2, g1] => { results := [.lit (.bool false)], args := [d1, d2], vars := [g1] }
  | _ => none }
def FnExactHasCheckWrongFalsely : Prop := fnExactHasCheckRow.holds Tryd.pinned (OpenSpec.ofChange fnExactHasCheckWrong)

/-- 'laws.FnExactCheckOrder': WHATEVER THE INPUT: true; the input reads as it did. -/
def fnExactCheckOrderSpec : ChangeSpec := { name := "fnExactCheckOrder", vars := ["loop.example/g01142/impl.errInvalid"], fn := fun _ => fun
  | [d, g1] => { results := [.lit (.bool true)], args := [d], vars := [g1] }
  | _ => none }
def fnExactCheckOrderRow : OpenClaim := { program := "ytkgfmpkpeipddabdoor", sum := "6d0fa60eda703359a76e735eebc14afe623d2cfbd574fd8dd1c6ada64c56bc08", func := "loop.example/g01142/laws.FnExactCheckOrder", spec := "fnExactCheckOrder", named := ["loop.example/g01142/impl.errInvalid"], ifaces := true, apart := false, laid := [("loop.example/g01142/impl.errInvalid", laid_loop_example_g01142_impl_errInvalid)] }
def FnExactCheckOrderSaid : Prop := fnExactCheckOrderRow.holds Tryd.pinned (OpenSpec.ofChange fnExactCheckOrderSpec)

/-- ITS FALSE NEIGHBOUR: 'it returns false'. Refute it at one input. -/
def fnExactCheckOrderWrong : ChangeSpec := { name := "fnExactCheckOrder", vars := ["loop.example/g01142/impl.errInvalid"], fn := fun _ => fun
  | [d, g1] => { results := [.lit (.bool false)], args := [d], vars := [g1] }
  | _ => none }
def FnExactCheckOrderWrongFalsely : Prop := fnExactCheckOrderRow.holds Tryd.pinned (OpenSpec.ofChange fnExactCheckOrderWrong)

/-- 'laws.FnExactCountMissed': WHATEVER THE INPUT: true; the input reads as it did. -/
def fnExactCountMissedSpec : ChangeSpec := { name := "fnExactCountMissed", vars := ["loop.example/g01142/impl.errInvalid"], fn := fun _ => fun
  | [d1, d2, d3, g1] => { results := [.lit (.bool true)], args := [d1, d2, d3], vars := [g1] }
  | _ => none }
def fnExactCountMissedRow : OpenClaim := { program := "ytkgfmpkpeipddabdoor", sum := "6d0fa60eda703359a76e735eebc14afe623d2cfbd574fd8dd1c6ada64c56bc08", func := "loop.example/g01142/laws.FnExactCountMissed", spec := "fnExactCountMissed", unfollowed := true, recurses := true, named := ["loop.example/g01142/impl.errInvalid"], ifaces := true, apart := false, laid := [("loop.example/g01142/impl.errInvalid", laid_loop_example_g01142_impl_errInvalid)] }
def FnExactCountMissedSaid : Prop := fnExactCountMissedRow.holds Tryd.pinned (OpenSpec.ofChange fnExactCountMissedSpec)

/-- ITS FALSE NEIGHBOUR: 'it returns false'. Refute it at one input. -/
def fnExactCountMissedWrong : ChangeSpec := { name := "fnExactCountMissed", vars := ["loop.example/g01142/impl.errInvalid"], fn := fun _ => fun
  | [d1, d2, d3, g1] => { results := [.lit (.bool false)], args := [d1, d2, d3], vars := [g1] }
  | _ => none }
def FnExactCountMissedWrongFalsely : Prop := fnExactCountMissedRow.holds Tryd.pinned (OpenSpec.ofChange fnExactCountMissedWrong)

/-- 'laws.FnExactLeastMissed': WHATEVER THE INPUT: true; the input reads as it did. -/
def fnExactLeastMissedSpec : ChangeSpec := { name := "fnExactLeastMissed", vars := ["loop.example/g01142/impl.errInvalid", "loop.example/g01142/impl.errNone"], fn := fun _ => fun
  | [d1, d2, g1, g2] => { results := [.lit (.bool true)], args := [d1, d2], vars := [g1, g2] }
  | _ => none }
def fnExactLeastMissedRow : OpenClaim := { program := "ytkgfmpkpeipddabdoor", sum := "6d0fa60eda703359a76e735eebc14afe623d2cfbd574fd8dd1c6ada64c56bc08", func := "loop.example/g01142/laws.FnExactLeastMissed", spec := "fnExactLeastMissed", unfollowed := true, recurses := true, named := ["loop.example/g01142/impl.errInvalid", "loop.example/g01142/impl.errNone"], ifaces := true, apart := false, laid := [("loop.example/g01142/impl.errInvalid", laid_loop_example_g01142_impl_errInvalid), ("loop.example/g01142/impl.errNone", laid_loop_example_g01142_impl_errNone)] }
def FnExactLeastMissedSaid : Prop := fnExactLeastMissedRow.holds Tryd.pinned (OpenSpec.ofChange fnExactLeastMissedSpec)

/-- ITS FALSE NEIGHBOUR: 'it returns false'. Refute it at one input. -/
def fnExactLeastMissedWrong : ChangeSpec := { name := "fnExactLeastMissed", vars := ["loop.example/g01142/impl.errInvalid", "loop.example/g01142/impl.errNone"], fn := fun _ => fun
  | [d1, d2, g1, g2] => { results := [.lit (.bool false)], args := [d1, d2], vars := [g1, g2] }
  | _ => none }
def FnExactLeastMissedWrongFalsely : Prop := fnExactLeastMissedRow.holds Tryd.pinned (OpenSpec.ofChange fnExactLeastMissedWrong)

/-- 'laws.FnChecks': WHATEVER THE INPUT: true; the input reads as it did. -/
def fnChecksSpec : ChangeSpec := { name := "fnChecks", vars := ["loop.example/g01142/impl.errInvalid"], fn := fun _ => fun
  | [d1, d2, g1] => { results := [.lit (.bool true)], args := [d1, d2], vars := [g1] }
  | _ => none }
def fnChecksRow : OpenClaim := { program := "ytkgfmpkpeipddabdoor", sum := "6d0fa60eda703359a76e735eebc14afe623d2cfbd574fd8dd1c6ada64c56bc08", func := "loop.example/g01142/laws.FnChecks", spec := "fnChecks", unfollowed := true, recurses := true, named := ["loop.example/g01142/impl.errInvalid"], ifaces := true, apart := false, laid := [("loop.example/g01142/impl.errInvalid", laid_loop_example_g01142_impl_errInvalid)] }
def FnChecksSaid : Prop := fnChecksRow.holds Tryd.pinned (OpenSpec.ofChange fnChecksSpec)

/-- ITS FALSE NEIGHBOUR: 'it returns false'. Refute it at one input. -/
def fnChecksWrong : ChangeSpec := { name := "fnChecks", vars := ["loop.example/g01142/impl.errInvalid"], fn := fun _ => fun
  | [d1, d2, g1] => { results := [.lit (.bool false)], args := [d1, d2], vars := [g1] }
  | _ => none }
def FnChecksWrongFalsely : Prop := fnChecksRow.holds Tryd.pinned (OpenSpec.ofChange fnChecksWrong)

/-- 'laws.FnMissed': WHATEVER THE INPUT: true; the input reads as it did. -/
def fnMissedSpec : ChangeSpec := { name := "fnMissed", vars := ["loop.example/g01142/impl.errInvalid", "loop.example/g01142/impl.errNone"], fn := fun _ => fun
  | [d1, d2, g1, g2] => { results := [.lit (.bool true)], args := [d1, d2], vars := [g1, g2] }
  | _ => none }
def fnMissedRow : OpenClaim := { program := "ytkgfmpkpeipddabdoor", sum := "6d0fa60eda703359a76e735eebc14afe623d2cfbd574fd8dd1c6ada64c56bc08", func := "loop.example/g01142/laws.FnMissed", spec := "fnMissed", unfollowed := true, recurses := true, named := ["loop.example/g01142/impl.errInvalid", "loop.example/g01142/impl.errNone"], ifaces := true, apart := false, laid := [("loop.example/g01142/impl.errInvalid", laid_loop_example_g01142_impl_errInvalid), ("loop.example/g01142/impl.errNone", laid_loop_example_g01142_impl_errNone)] }
def FnMissedSaid : Prop := fnMissedRow.holds Tryd.pinned (OpenSpec.ofChange fnMissedSpec)

/-- ITS FALSE NEIGHBOUR: 'it returns false'. Refute it at one input. -/
def fnMissedWrong : ChangeSpec := { name := "fnMissed", vars := ["loop.example/g01142/impl.errInvalid", "loop.example/g01142/impl.errNone"], fn := fun _ => fun
  | [d1, d2, g1, g2] => { results := [.lit (.bool false)], args := [d1, d2], vars := [g1, g2] }
  | _ => none }
def FnMissedWrongFalsely : Prop := fnMissedRow.holds Tryd.pinned (OpenSpec.ofChange fnMissedWrong)

/-- 'laws.FnBursts': WHATEVER THE INPUT: true; the input reads as it did. -/
def fnBurstsSpec : ChangeSpec := { name := "fnBursts", vars := ["loop.example/g01142/impl.errInvalid"], fn := fun _ => fun
  | [d1, d2, g1] => { results := [.lit (.bool true)], args := [d1, d2], vars := [g1] }
  | _ => none }
def fnBurstsRow : OpenClaim := { program := "ytkgfmpkpeipddabdoor", sum := "6d0fa60eda703359a76e735eebc14afe623d2cfbd574fd8dd1c6ada64c56bc08", func := "loop.example/g01142/laws.FnBursts", spec := "fnBursts", named := ["math/bits.deBruijn64tab", "loop.example/g01142/impl.errInvalid"], ifaces := true, apart := false, laid := [("math/bits.deBruijn64tab", laid_math_bits_deBruijn64tab), ("loop.example/g01142/impl.errInvalid", laid_loop_example_g01142_impl_errInvalid)] }
def FnBurstsSaid : Prop := fnBurstsRow.holds Tryd.pinned (OpenSpec.ofChange fnBurstsSpec)

/-- ITS FALSE NEIGHBOUR: 'it returns false'. Refute it at one input. -/
def fnBurstsWrong : ChangeSpec := { name := "fnBursts", vars := ["loop.example/g01142/impl.errInvalid"], fn := fun _ => fun
  | [d1, d2, g1] => { results := [.lit (.bool false)], args := [d1, d2], vars := [g1] }
  | _ => none }
def FnBurstsWrongFalsely : Prop := fnBurstsRow.holds Tryd.pinned (OpenSpec.ofChange fnBurstsWrong)

/- THE SECOND FORM. 'bulk': how many values and letters a reading holds, each counted each time it is reached (what is shared counts as often as it is met; a slice's spare places count too). A statement '..UptoSaid' is the law's where the arguments, and the package variables that the reading takes, are together of bulk at most 1048576: NARROWER than '..Said'. Prove '..Said' where nothing that the law and all that it calls make is longer than what came in: it says more and counts as full. Else prove '..UptoSaid'. A law counts once. -/
mutual
def uptoBulk {H : Type} : DataW H → Nat
  | .lit (.string bytes) => bytes.length + 1
  | .lit _ => 1
  | .nil => 1
  | .ptr d => uptoBulk d + 1
  | .slice elems spare => uptoBulkAll elems + uptoBulkAll spare + 1
  | .agg parts => uptoBulkAll parts + 1
  | .iface _ d => uptoBulk d + 1
  | .map entries => uptoBulkEntries entries + 1
  | .held _ => 1
def uptoBulkAll {H : Type} : List (DataW H) → Nat
  | [] => 0
  | d :: r => uptoBulk d + uptoBulkAll r
def uptoBulkEntries {H : Type} : List (Lit × DataW H) → Nat
  | [] => 0
  | x :: r => uptoBulkEntry x + uptoBulkEntries r
def uptoBulkEntry {H : Type} : Lit × DataW H → Nat
  | (.string bytes, d) => bytes.length + uptoBulk d + 1
  | (_, d) => uptoBulk d + 1
 end
def uptoSmall : (H : Type) → List (DataW H) → Bool := fun _ ds => decide (uptoBulkAll ds ≤ 1048576)
def OpenSpec.upto (s : _root_.Go.ChangeSpec) : _root_.Go.OpenSpec := { _root_.Go.OpenSpec.ofChange s with cond := some uptoSmall }

/-- 'laws.FnExactCheckBits', WHERE WHAT IT READS IS OF BULK AT MOST 1048576: true; the input reads as it did. -/
def fnExactCheckBitsUptoRow : OpenClaim := { program := "ytkgfmpkpeipddabdoor", sum := "6d0fa60eda703359a76e735eebc14afe623d2cfbd574fd8dd1c6ada64c56bc08", func := "loop.example/g01142/laws.FnExactCheckBits", spec := "fnExactCheckBits", named := ["loop.example/g01142/impl.errInvalid"], ifaces := true, apart := false, laid := [("loop.example/g01142/impl.errInvalid", laid_loop_example_g01142_impl_errInvalid)], narrowed := true }
def FnExactCheckBitsUptoSaid : Prop := fnExactCheckBitsUptoRow.holds Tryd.pinned (OpenSpec.upto fnExactCheckBitsSpec)

/-- 'laws.FnExactAddCheck', WHERE WHAT IT READS IS OF BULK AT MOST 1048576: true; the input reads as it did. -/
def fnExactAddCheckUptoRow : OpenClaim := { program := "ytkgfmpkpeipddabdoor", sum := "6d0fa60eda703359a76e735eebc14afe623d2cfbd574fd8dd1c6ada64c56bc08", func := "loop.example/g01142/laws.FnExactAddCheck", spec := "fnExactAddCheck", named := ["loop.example/g01142/impl.errInvalid"], ifaces := true, apart := false, laid := [("loop.example/g01142/impl.errInvalid", laid_loop_example_g01142_impl_errInvalid)], narrowed := true }
def FnExactAddCheckUptoSaid : Prop := fnExactAddCheckUptoRow.holds Tryd.pinned (OpenSpec.upto fnExactAddCheckSpec)

/-- 'laws.FnExactHasCheck', WHERE WHAT IT READS IS OF BULK AT MOST 1048576: true; the input reads as it did. -/
def fnExactHasCheckUptoRow : OpenClaim := { program := "ytkgfmpkpeipddabdoor", sum := "6d0fa60eda703359a76e735eebc14afe623d2cfbd574fd8dd1c6ada64c56bc08", func := "loop.example/g01142/laws.FnExactHasCheck", spec := "fnExactHasCheck", named := ["loop.example/g01142/impl.errInvalid"], ifaces := true, apart := false, laid := [("loop.example/g01142/impl.errInvalid", laid_loop_example_g01142_impl_errInvalid)], narrowed := true }
def FnExactHasCheckUptoSaid : Prop := fnExactHasCheckUptoRow.holds Tryd.pinned (OpenSpec.upto fnExactHasCheckSpec)

/-- 'laws.FnExactCheckOrder', WHERE WHAT IT READS IS OF BULK AT MOST 1048576: true; the input reads as it did. -/
def fnExactCheckOrderUptoRow : OpenClaim := { program := "ytkgfmpkpeipddabdoor", sum := "6d0fa60eda703359a76e735eebc14afe623d2cfbd574fd8dd1c6ada64c56bc08", func := "loop.example/g01142/laws.FnExactCheckOrder", spec := "fnExactCheckOrder", named := ["loop.example/g01142/impl.errInvalid"], ifaces := true, apart := false, laid := [("loop.example/g01142/impl.errInvalid", laid_loop_example_g01142_impl_errInvalid)], narrowed := true }
def FnExactCheckOrderUptoSaid : Prop := fnExactCheckOrderUptoRow.holds Tryd.pinned (OpenSpec.upto fnExactCheckOrderSpec)

/-- 'laws.FnExactCountMissed', WHERE WHAT IT READS IS OF BULK AT MOST 1048576: true; the input reads as it did. -/
def fnExactCountMissedUptoRow : OpenClaim := { program := "ytkgfmpkpeipddabdoor", sum := "6d0fa60eda703359a76e735eebc14afe623d2cfbd574fd8dd1c6ada64c56bc08", func := "loop.example/g01142/laws.FnExactCountMissed", spec := "fnExactCountMissed", unfollowed := true, recurses := true, named := ["loop.example/g01142/impl.errInvalid"], ifaces := true, apart := false, laid := [("loop.example/g01142/impl.errInvalid", laid_loop_example_g01142_impl_errInvalid)], narrowed := true }
def FnExactCountMissedUptoSaid : Prop := fnExactCountMissedUptoRow.holds Tryd.pinned (OpenSpec.upto fnExactCountMissedSpec)

/-- 'laws.FnExactLeastMissed', WHERE WHAT IT READS IS OF BULK AT MOST 1048576: true; the input reads as it did. -/
def fnExactLeastMissedUptoRow : OpenClaim := { program := "ytkgfmpkpeipddabdoor", sum := "6d0fa60eda703359a76e735eebc14afe623d2cfbd574fd8dd1c6ada64c56bc08", func := "loop.example/g01142/laws.FnExactLeastMissed", spec := "fnExactLeastMissed", unfollowed := true, recurses := true, named := ["loop.example/g01142/impl.errInvalid", "loop.example/g01142/impl.errNone"], ifaces := true, apart := false, laid := [("loop.example/g01142/impl.errInvalid", laid_loop_example_g01142_impl_errInvalid), ("loop.example/g01142/impl.errNone", laid_loop_example_g01142_impl_errNone)], narrowed := true }
def FnExactLeastMissedUptoSaid : Prop := fnExactLeastMissedUptoRow.holds Tryd.pinned (OpenSpec.upto fnExactLeastMissedSpec)

/-- 'laws.FnChecks', WHERE WHAT IT READS IS OF BULK AT MOST 1048576: true; the input reads as it did. -/
def fnChecksUptoRow : OpenClaim := { program := "ytkgfmpkpeipddabdoor", sum := "6d0fa60eda703359a76e735eebc14afe623d2cfbd574fd8dd1c6ada64c56bc08", func := "loop.example/g01142/laws.FnChecks", spec := "fnChecks", unfollowed := true, recurses := true, named := ["loop.example/g01142/impl.errInvalid"], ifaces := true, apart := false, laid := [("loop.example/g01142/impl.errInvalid", laid_loop_example_g01142_impl_errInvalid)], narrowed := true }
def FnChecksUptoSaid : Prop := fnChecksUptoRow.holds Tryd.pinned (OpenSpec.upto fnChecksSpec)

/-- 'laws.FnMissed', WHERE WHAT IT READS IS OF BULK AT MOST 1048576: true; the input reads as it did. -/
def fnMissedUptoRow : OpenClaim := { program := "ytkgfmpkpeipddabdoor", sum := "6d0fa60eda703359a76e735eebc14afe623d2cfbd574fd8dd1c6ada64c56bc08", func := "loop.example/g01142/laws.FnMissed", spec := "fnMissed", unfollowed := true, recurses := true, named := ["loop.example/g01142/impl.errInvalid", "loop.example/g01142/impl.errNone"], ifaces := true, apart := false, laid := [("loop.example/g01142/impl.errInvalid", laid_loop_example_g01142_impl_errInvalid), ("loop.example/g01142/impl.errNone", laid_loop_example_g01142_impl_errNone)], narrowed := true }
def FnMissedUptoSaid : Prop := fnMissedUptoRow.holds Tryd.pinned (OpenSpec.upto fnMissedSpec)

/-- 'laws.FnBursts', WHERE WHAT IT READS IS OF BULK AT MOST 1048576: true; the input reads as it did. -/
def fnBurstsUptoRow : OpenClaim := { program := "ytkgfmpkpeipddabdoor", sum := "6d0fa60eda703359a76e735eebc14afe623d2cfbd574fd8dd1c6ada64c56bc08", func := "loop.example/g01142/laws.FnBursts", spec := "fnBursts", named := ["math/bits.deBruijn64tab", "loop.example/g01142/impl.errInvalid"], ifaces := true, apart := false, laid := [("math/bits.deBruijn64tab", laid_math_bits_deBruijn64tab), ("loop.example/g01142/impl.errInvalid", laid_loop_example_g01142_impl_errInvalid)], narrowed := true }
def FnBurstsUptoSaid : Prop := fnBurstsUptoRow.holds Tryd.pinned (OpenSpec.upto fnBurstsSpec)

end Rows
end Go.Proofs.YtkgfmpkpeipddabDoor
