/- Contracts of l01Xor and of both XorBits, and the walk of its law. -/
import Derived.Test.YtddlpbpcdjddpaaBits
import Derived.Test.YtddlpbpcdjddpaaOwn
import Derived.Deep.RegionLaw
import Derived.Deep.AppendLies
namespace Go.Proofs.Ytddlpbpcdjddpaa
open Go Go.RowKit
set_option linter.unusedVariables false

/-- Where bits differ. -/
def xorB (a b : List UInt8) (k : Nat) : List UInt8 := (List.range k).map fun j => if a[j]? = b[j]? then 48 else 49
theorem xorB_succ (a b : List UInt8) (k : Nat) : xorB a b (k + 1) = xorB a b k ++ [if a[k]? = b[k]? then 48 else 49] := by simp [xorB, List.range_succ]
theorem xorB_length (a b : List UInt8) (k : Nat) : (xorB a b k).length = k := by simp [xorB]

def xpart (a b : List UInt8) (n k : Nat) : List Value := byteVals (xorB a b k) ++ List.replicate (n - k) (.int .u8 0)
theorem xpart_zero (a b : List UInt8) (n : Nat) : xpart a b n 0 = List.replicate n (.int .u8 0) := by simp [xpart, xorB, byteVals]
theorem xpart_full (a b : List UInt8) (n : Nat) : xpart a b n n = byteVals (xorB a b n) := by simp [xpart]
theorem xpart_set (a b : List UInt8) (n k : Nat) (hk : k < n) (c : UInt8) (hc : (if a[k]? = b[k]? then (48 : UInt8) else 49) = c) : (xpart a b n k).set k (.int .u8 (c.toNat : Int)) = xpart a b n (k + 1) := by
  unfold xpart
  rw [List.set_append, if_neg (by rw [byteVals_length, xorB_length]; omega), byteVals_length, xorB_length, Nat.sub_self, xorB_succ, ← byteVals_snoc, hc]
  obtain ⟨m, hm⟩ : ∃ m, n - k = m + 1 := ⟨n - k - 1, by omega⟩
  rw [hm, show n - (k + 1) = m from by omega, List.replicate_succ]
  simp

/-- Two texts of few bits that are as long. -/
def xorOk (a b : List UInt8) : Bool := isB a && isB b && decide (a.length = b.length)
theorem isB_parts {l : List UInt8} (h : isB l = true) : l.length ≤ 400 ∧ inR 48 49 l = true := by
  unfold isB at h
  have h' := Bool.and_eq_true_iff.1 h
  exact ⟨of_decide_eq_true h'.1, h'.2⟩

end Go.Proofs.Ytddlpbpcdjddpaa
