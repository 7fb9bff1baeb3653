/- The model stuffs bits: l04Stuff. -/
import Derived.Test.YtddlpbpcdjddpaaStP
import Derived.Test.YtddlpbpcdjddpaaFlg
import Derived.Deep.RegionLaw
import Derived.Deep.AppendLies
namespace Go.Proofs.Ytddlpbpcdjddpaa
open Go Go.RowKit
set_option linter.unusedVariables false

theorem sv_cells {W : World} {k : Nat} {a b : Int} (h : Bk W k (sV a b)) : W.cell? ⟨k, 0, none⟩ = some (.int .i64 a) ∧ W.cell? ⟨k, 1, none⟩ = some (.int .i64 b) := bk_two h
theorem byte_of {c : UInt8} {n : Nat} (hn : n < 256) (h : (c.toNat : Int) = n) : c = UInt8.ofNat n := by
  apply UInt8.toNat_inj.1
  have e : (UInt8.ofNat n).toNat = n % 256 := rfl
  omega
theorem st_other {n : Nat} {d o x : UInt8} {L M : List UInt8} {r : Nat} (h : stF n d o L = (M, r)) (hx : x ≠ d) : stStep n d o (stF n d o L) x = (M ++ [x], 0) := by rw [h]; simp [stStep, hx]
theorem st_digit {n : Nat} {d o : UInt8} {L M : List UInt8} {r : Nat} (h : stF n d o L = (M, r)) (hr : ¬ r + 1 = n) : stStep n d o (stF n d o L) d = (M ++ [d], r + 1) := by rw [h]; simp [stStep, hr]
theorem st_full {n : Nat} {d o : UInt8} {L M : List UInt8} {r : Nat} (h : stF n d o L = (M, r)) (hr : r + 1 = n) : stStep n d o (stF n d o L) d = ((M ++ [d]) ++ [o], 0) := by rw [h]; simp [stStep, hr]
end Go.Proofs.Ytddlpbpcdjddpaa
