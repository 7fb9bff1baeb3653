/- A stuffer's digits; its flag: the model's. -/
import Derived.Test.YtddlpbpcdjddpaaStf
import Derived.Test.YtddlpbpcdjddpaaOwn
import Derived.Laws.Runes
import Derived.BigRegion
namespace Go.Proofs.Ytddlpbpcdjddpaa
open Go Go.RowKit
set_option linter.unusedVariables false

/-- A stuffer's bit, and both digits as bytes of bits. -/
def Dg (b : Int) (d o : UInt8) : Prop := b = 0 ∧ d = 48 ∧ o = 49 ∨ b = 1 ∧ d = 49 ∧ o = 48
def dB (b : Int) : UInt8 := if b = 0 then 48 else 49
def oB (b : Int) : UInt8 := if b = 0 then 49 else 48
theorem dg_of {b : Int} (h : 0 ≤ b ∧ b ≤ 1) : Dg b (dB b) (oB b) := by
  rcases (show b = 0 ∨ b = 1 from by omega) with rfl | rfl
  · exact .inl ⟨rfl, rfl, rfl⟩
  · exact .inr ⟨rfl, rfl, rfl⟩
theorem conv_one (W : World) (c : UInt8) (x : Int) (hx : (c.toNat : Int) = x) : (convert 41 9 (.slice (some ⟨W.heap.size, 0, none⟩) 1 1)).run Try.prog (W.alloc (.cells #[.int .u8 x] 5)) = .ok (.string ⟨#[c]⟩) (W.alloc (.cells #[.int .u8 x] 5)) :=
  run_convert_bytes_back (P := Try.prog) (W.alloc (.cells #[.int .u8 x] 5)) 41 9 5 ⟨W.heap.size, 0, none⟩ 1 [c] Try.underlying41 Try.underlying5 Try.underlying9 (by
    intro i hi
    have h0 : i = 0 := by simp at hi; exact hi
    subst h0
    have ea : (⟨W.heap.size, 0, none⟩ : Addr).add 0 = ⟨W.heap.size, 0, none⟩ := by unfold Addr.add; split <;> simp_all
    rw [ea, World.cell?_alloc_at _ _ _ _ rfl]
    simp [hx])
/-- The flag. -/
def fl (n : Nat) (d o : UInt8) : ByteArray := ⟨([o] ++ List.replicate (n + 1) d ++ [o]).toArray⟩
def flP (k : Nat) (d o : UInt8) : ByteArray := ⟨([o] ++ List.replicate k d).toArray⟩
theorem flP_zero (d o : UInt8) : flP 0 d o = ⟨#[o]⟩ := rfl
theorem flP_succ (k : Nat) (d o : UInt8) : flP k d o ++ ⟨#[d]⟩ = flP (k + 1) d o := by
  apply ByteArray.ext
  simp [flP, List.replicate_succ']
theorem flP_end (n : Nat) (d o : UInt8) : flP (n + 1) d o ++ ⟨#[o]⟩ = fl n d o := by
  apply ByteArray.ext
  simp [flP, fl]
theorem flP_size (k : Nat) (d o : UInt8) : (flP k d o).size = k + 1 := by simp [flP, ByteArray.size]
theorem fl_size (n : Nat) (d o : UInt8) : (fl n d o).size = n + 3 := by simp [fl, ByteArray.size]

end Go.Proofs.Ytddlpbpcdjddpaa
