/- Plain: the commas with a length. -/
import Derived.Test.YtijmfienaoeboabCmJ
import Derived.Test.YtijmfienaoeboabDig
namespace Go.Proofs.Ytijmfienaoeboab
open Go Go.RowKit
set_option linter.unusedVariables false

/-- A number's digits as a text. -/
def coW (L n : Nat) : ByteArray := ⟨(digs (n : Int) L L).toArray⟩
/-- The commas among the first k patterns. -/
def coF (m p : List ByteArray) (L k : Nat) : List ByteArray := ((List.range k).filter fun n => !mcB m p (coW L n).data.toList).map (coW L)
theorem coF_yes (m p : List ByteArray) (L k : Nat) (h : mcB m p (coW L k).data.toList = false) : coF m p L (k + 1) = coF m p L k ++ [coW L k] := by
  unfold coF; rw [List.range_succ, List.filter_append, List.map_append]; simp [h]
theorem coF_no (m p : List ByteArray) (L k : Nat) (h : mcB m p (coW L k).data.toList = true) : coF m p L (k + 1) = coF m p L k := by
  unfold coF; rw [List.range_succ, List.filter_append, List.map_append]; simp [h]
theorem coF_len (m p : List ByteArray) (L k : Nat) : (coF m p L k).length ≤ k := by
  unfold coF; rw [List.length_map]
  have := List.length_filter_le (fun n => !mcB m p (coW L n).data.toList) (List.range k)
  rwa [List.length_range] at this
theorem coW_size (L n : Nat) : (coW L n).size = L := by
  show (digs (n : Int) L L).toArray.size = L
  simp [digs_length]
/-- What CommasOf answers. -/
def coOk (d wd : Int) (m p : List ByteArray) (len : Int) : Bool := bcOk d wd m p && decide (1 ≤ len ∧ len ≤ min 8 (wd + 1))
def coV (d wd : Int) (m p : List ByteArray) (len : Int) : List ByteArray := if coOk d wd m p len = true then coF m p len.toNat (2 ^ len.toNat) else []
end Go.Proofs.Ytijmfienaoeboab
