/- The model's CheckBits, AddCheck, HasCheck. -/
import Derived.Test.YtnpigefbdadjfaaDoorCkm
namespace Go.Proofs.YtnpigefbdadjfaaDoor
open Go Go.RowKit
set_option linter.unusedVariables false

/-- The number of a text's bits; its check's remainder and bits. -/
def nbl (l : List UInt8) : Nat := nbits (btN l) 0
def rmN (P : Nat) (l : List UInt8) : Nat := rd P (Nat.log2 P) (nbl l * 2 ^ Nat.log2 P)
def cbL (P : Nat) (l : List UInt8) : List UInt8 := digs (rmN P l : Int) (Nat.log2 P) (Nat.log2 P)
theorem cbL_len (P : Nat) (l : List UInt8) : (cbL P l).length = Nat.log2 P := digs_length ..
theorem ck_nat {p : Int} (h : ckB p = true) : ∃ P : Nat, p = P ∧ 2 ≤ P ∧ P < 131072 ∧ Deg P (Nat.log2 P) ∧ Nat.log2 P ≤ 16 ∧ 1 ≤ Nat.log2 P := by
  have hp := of_decide_eq_true h
  obtain ⟨P, rfl⟩ := Int.eq_ofNat_of_zero_le (show 0 ≤ p by omega)
  have hg := deg_log (n := P) (by omega)
  refine ⟨P, rfl, by omega, by omega, hg, ?_, hg.one⟩
  rcases Nat.lt_or_ge (Nat.log2 P) 17 with h1 | h1
  · omega
  · have := Nat.pow_le_pow_right (show 0 < 2 by omega) h1
    have := hg.lo
    omega
/-- What CheckBits answers. -/
def ckOk (p : Int) (l : List UInt8) : Bool := ckB p && isB l
def cbV (p : Int) (l : List UInt8) : ByteArray := if ckOk p l then ⟨(cbL p.toNat l).toArray⟩ else ⟨#[]⟩
theorem cb_no {p : Int} {l : List UInt8} (h : ckOk p l = false) : cbV p l = ⟨#[]⟩ := by unfold cbV; rw [h]; rfl
theorem cb_yes {p : Int} {l : List UInt8} (h : ckOk p l = true) : cbV p l = ⟨(cbL p.toNat l).toArray⟩ := by unfold cbV; rw [h]; rfl
end Go.Proofs.YtnpigefbdadjfaaDoor
