/- A text made bytes: the row. -/
import Derived.Test.YtddlpbpcdjddpaaRdv
import Derived.Test.YtddlpbpcdjddpaaOwn
import Derived.Laws.IdiomStrings
namespace Go.Proofs.Ytddlpbpcdjddpaa
open Go Go.RowKit
set_option linter.unusedVariables false

def capB (W : World) (s : ByteArray) : Nat := grownCap W s.size 0 5
def rowB (W : World) (s : ByteArray) : Array Value := bytesRow s (capB W s)
def markB (W : World) (s : ByteArray) : Nat × Nat := ((rowB W s).size, (rowB W s).size + 1)
theorem convB (W : World) (s : ByteArray) : (convert 9 41 (.string s)).run Try.prog W = .ok (.slice (some ⟨W.heap.size, 0, none⟩) s.size (capB W s)) (W.drew.alloc (.cells (rowB W s) 5 (markB W s))) :=
  run_bytes_of_string W 9 41 5 s Try.underlying9 Try.underlying41 Try.underlying5
theorem capB_le (W : World) (s : ByteArray) : s.size ≤ capB W s := grownCap_ge _ _ _ _
theorem rowB_at (W : World) (s : ByteArray) (j : Nat) (h : j < s.size) : (rowB W s)[j]? = some (.int .u8 (s[j].toNat : Int)) := by
  unfold rowB bytesRow
  rw [Array.getElem?_append_left (by simpa using h), Array.getElem?_map, Array.getElem?_eq_getElem (by simpa using h)]
  rfl
theorem byteVals_at (l : List UInt8) (i : Nat) (x : Value) (h : (byteVals l)[i]? = some x) : ∃ hi : i < l.length, x = .int .u8 (l[i].toNat : Int) := by
  unfold byteVals at h
  rw [List.getElem?_map] at h
  cases e : l[i]? with
  | none => rw [e] at h; cases h
  | some c =>
    rw [e] at h
    obtain ⟨hi, rfl⟩ := List.getElem?_eq_some_iff.1 e
    exact ⟨hi, by simpa using h.symm⟩
/-- The row reads as the text's bytes. -/
theorem rdv_conv (W : World) (s : ByteArray) (hs : s.size ≤ maxLen) (o : World) : RdV (· = W.heap.size) (W.drew.alloc (.cells (rowB o s) 5 (markB o s))) (.slice (some ⟨W.heap.size, 0, none⟩) s.size (capB o s)) (byteVals s.data.toList) := by
  refine ⟨_, _, _, rfl, by simp [byteVals], capB_le o s, hs, fun _ => ⟨W.heap.size, 0, rfl, rfl, by simp, fun i x hx => ?_⟩⟩
  obtain ⟨hi, rfl⟩ := byteVals_at _ _ _ hx
  have hi' : i < s.size := by simpa using hi
  rw [Nat.zero_add]
  have := World.cell?_alloc_mark W.drew (rowB o s) 5 (markB o s) i
  rw [show W.drew.heap.size = W.heap.size from rfl] at this
  rw [this, rowB_at o s i hi']
  rfl
end Go.Proofs.Ytddlpbpcdjddpaa
