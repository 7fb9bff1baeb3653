/- Plain facts on lists of bytes, without the program. -/
import Derived.WalkKit
import Derived.Lib.Hide
namespace Go.Proofs.Ytddlpbpcdjddpaa
open Go.RowKit

/-- All bytes of a list lie between two numbers. -/
def inR (lo hi : Int) (l : List UInt8) : Bool := l.all fun c => decide (lo ≤ (c.toNat : Int) ∧ (c.toNat : Int) ≤ hi)

theorem inR_append (lo hi : Int) (a b : List UInt8) : inR lo hi (a ++ b) = (inR lo hi a && inR lo hi b) := by simp [inR]
theorem inR_cons (lo hi : Int) (c : UInt8) (l : List UInt8) : inR lo hi (c :: l) = (decide (lo ≤ (c.toNat : Int) ∧ (c.toNat : Int) ≤ hi) && inR lo hi l) := by simp [inR]
theorem inR_nil (lo hi : Int) : inR lo hi [] = true := rfl
theorem take_snoc (s : ByteArray) (k : Nat) (h : k < s.size) : s.data.toList.take (k + 1) = s.data.toList.take k ++ [s[k]] := by
  rw [List.take_succ_eq_append_getElem (by simpa using h)]; rfl
theorem take_all (s : ByteArray) (k : Nat) (h : ¬ k < s.size) : s.data.toList.take k = s.data.toList := by
  rw [List.take_of_length_le]; simp; omega
theorem inR_snoc (lo hi : Int) (s : ByteArray) (k : Nat) (h : k < s.size) : inR lo hi (s.data.toList.take (k + 1)) = (inR lo hi (s.data.toList.take k) && decide (lo ≤ (s[k].toNat : Int) ∧ (s[k].toNat : Int) ≤ hi)) := by
  rw [take_snoc s k h, inR_append]; simp [inR]
/-- A byte outside: not all lie between. -/
theorem inR_bad (lo hi : Int) (s : ByteArray) (k : Nat) (h : k < s.size) (hb : ¬ (lo ≤ (s[k].toNat : Int) ∧ (s[k].toNat : Int) ≤ hi)) : inR lo hi s.data.toList = false := by
  have e : s.data.toList = s.data.toList.take (k + 1) ++ s.data.toList.drop (k + 1) := (List.take_append_drop _ _).symm
  rw [e, inR_append, inR_snoc lo hi s k h, decide_eq_false hb]; simp
theorem width_pos (s : ByteArray) (pos : Nat) (h : pos < s.size) : 1 ≤ (Utf8.decode s pos).2 := by
  by_cases ha : (s[pos]'h).toNat < 128
  · rw [decode_ascii s pos h ha]
    exact Nat.le_refl _
  · exact (decode_high s pos h (by omega)).2
theorem inR_of_take (lo hi : Int) (s : ByteArray) (k : Nat) (h : ¬ k < s.size) (e : inR lo hi (s.data.toList.take k) = true) : inR lo hi s.data.toList = true := by
  rw [take_all s k h] at e; exact e
theorem inR_take (lo hi : Int) (s : ByteArray) (k : Nat) (e : inR lo hi s.data.toList = true) : inR lo hi (s.data.toList.take k) = true := by
  rw [← List.take_append_drop k s.data.toList, inR_append] at e
  exact (Bool.and_eq_true_iff.1 e).1
theorem inR_at (lo hi : Int) (s : ByteArray) (k : Nat) (h : k < s.size) (e : inR lo hi s.data.toList = true) : lo ≤ (s[k].toNat : Int) ∧ (s[k].toNat : Int) ≤ hi := by
  by_cases hb : lo ≤ (s[k].toNat : Int) ∧ (s[k].toNat : Int) ≤ hi
  · exact hb
  · rw [inR_bad lo hi s k h hb] at e; cases e
theorem bne_t {a b : Int} (h : ¬ a = b) : (a != b) = true := by simpa using h
theorem bne_f {a b : Int} (h : a = b) : (a != b) = false := by simp [h]
theorem beq_t {a b : Int} (h : a = b) : (a == b) = true := by simp [h]
theorem beq_f {a b : Int} (h : ¬ a = b) : (a == b) = false := by simpa using h
theorem ret_bool {a b : Bool} (h : a = b) : Ending.returned (.bool a) = .returned (.bool b) := by rw [h]
theorem ret_int {k : IntKind} {a b : Int} (h : a = b) : Ending.returned (.int k a) = .returned (.int k b) := by rw [h]
theorem ret_str {a b : ByteArray} (h : a = b) : Ending.returned (.string a) = .returned (.string b) := by rw [h]
theorem ret_ib {k : IntKind} {a b : Int} {c d : Bool} (h : a = b) (h2 : c = d) : Ending.returned (.tuple #[.int k a, .bool c]) = .returned (.tuple #[.int k b, .bool d]) := by rw [h, h2]
theorem ret_sb {a b : ByteArray} {c d : Bool} (h : a = b) (h2 : c = d) : Ending.returned (.tuple #[.string a, .bool c]) = .returned (.tuple #[.string b, .bool d]) := by rw [h, h2]
end Go.Proofs.Ytddlpbpcdjddpaa
