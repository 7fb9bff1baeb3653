/- The model's blocks: sides, places, bits by columns and by rows. -/
import Derived.Test.YtnpigefbdadjfaaDoorIlP
import Derived.Test.YtnpigefbdadjfaaDoorBtw
import Derived.Test.YtnpigefbdadjfaaDoorBits
import Derived.Test.YtnpigefbdadjfaaDoorOwn
import Derived.Deep.AppendLies
namespace Go.Proofs.YtnpigefbdadjfaaDoor
open Go Go.RowKit
set_option linter.unusedVariables false

theorem in8 (x a b : Int) (w : World) : Calls Tryd.prog 145 #[.int .i64 x, .int .i64 a, .int .i64 b] w fun e w' => e = .returned (.bool (decide (a ≤ x ∧ x ≤ b))) ∧ w = w' := by
  by_cases h : a ≤ x ∧ x ≤ b
  · rw [decide_eq_true h]; exact l00In_yes x a b w h.1 h.2
  · rw [decide_eq_false h]; exact l00In_no x a b w h
theorem is8 (x a b : Int) (w : World) : Calls Tryd.prog 68 #[.int .i64 x, .int .i64 a, .int .i64 b] w fun e w' => e = .returned (.bool (decide (a ≤ x ∧ x ≤ b))) ∧ w = w' := by
  by_cases h : a ≤ x ∧ x ≤ b
  · rw [decide_eq_true h]; exact btw_yes x a b w h.1 h.2
  · rw [decide_eq_false h]; exact btw_no x a b w h
theorem ret_bool8 {a b : Bool} (h : a = b) : (Ending.returned (.bool a) : Ending) = .returned (.bool b) := by rw [h]
/-- Whether numbers are two sides. -/
def sdB (r c : Int) : Bool := decide (1 ≤ r ∧ r ≤ 20) && decide (1 ≤ c ∧ c ≤ 20)
theorem sd_is {r c : Int} (h : sdB r c = true) : (1 ≤ r ∧ r ≤ 20) ∧ (1 ≤ c ∧ c ≤ 20) := by
  have := Bool.and_eq_true_iff.1 h
  exact ⟨of_decide_eq_true this.1, of_decide_eq_true this.2⟩
theorem sd_area {r c : Int} (h : sdB r c = true) : 1 ≤ r * c ∧ r * c ≤ 400 := by
  obtain ⟨⟨a, b⟩, c1, d⟩ := sd_is h
  constructor
  · have := Int.mul_le_mul a c1 (by omega) (by omega); omega
  · have := Int.mul_le_mul b d (by omega) (by omega); omega
/-- Whether bits fit a block. -/
def blkOk (r c : Int) (l : List UInt8) : Bool := sdB r c && isB l && decide ((l.length : Int) = r * c)
def blkV (r c : Int) (l : List UInt8) : ByteArray := if blkOk r c l then ⟨(blkL r.toNat c.toNat l).toArray⟩ else ⟨#[]⟩
theorem blk_no {r c : Int} {l : List UInt8} (h : blkOk r c l = false) : blkV r c l = ⟨#[]⟩ := by unfold blkV; rw [h]; rfl
theorem blk_yes {r c : Int} {l : List UInt8} (h : blkOk r c l = true) : blkV r c l = ⟨(blkL r.toNat c.toNat l).toArray⟩ := by unfold blkV; rw [h]; rfl
theorem blk_is {r c : Int} {l : List UInt8} (h : blkOk r c l = true) : ∃ R C : Nat, r = R ∧ c = C ∧ 1 ≤ R ∧ R ≤ 20 ∧ 1 ≤ C ∧ C ≤ 20 ∧ l.length = R * C ∧ isB l = true := by
  unfold blkOk at h
  have h1 := Bool.and_eq_true_iff.1 h
  have h2 := Bool.and_eq_true_iff.1 h1.1
  obtain ⟨⟨a, b⟩, c1, d⟩ := sd_is h2.1
  obtain ⟨R, rfl⟩ := Int.eq_ofNat_of_zero_le (show 0 ≤ r by omega)
  obtain ⟨C, rfl⟩ := Int.eq_ofNat_of_zero_le (show 0 ≤ c by omega)
  refine ⟨R, C, rfl, rfl, by omega, by omega, by omega, by omega, ?_, h2.2⟩
  have := of_decide_eq_true h1.2
  rw [← Int.natCast_mul] at this
  omega

theorem sd_comm (r c : Int) : sdB r c = sdB c r := by unfold sdB; rw [Bool.and_comm]
theorem blk_comm (r c : Int) (l : List UInt8) : blkOk r c l = blkOk c r l := by unfold blkOk; rw [sd_comm, Int.mul_comm]

end Go.Proofs.YtnpigefbdadjfaaDoor
