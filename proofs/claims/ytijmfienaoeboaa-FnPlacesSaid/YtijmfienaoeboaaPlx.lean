/- Bytes come back from their bits: plain facts. -/
import Derived.Test.YtijmfienaoeboaaBy
import Derived.Test.YtijmfienaoeboaaBob
import Derived.Test.YtijmfienaoeboaaFindL
namespace Go.Proofs.Ytijmfienaoeboaa
open Go Go.RowKit
set_option linter.unusedVariables false

theorem val_digs (x : Int) (h0 : 0 ≤ x) (h1 : x ≤ 255) : valN (digs x 8 8) = x := by
  have key : ∀ n : Fin 256, valN (digs ((n.val : Nat) : Int) 8 8) = ((n.val : Nat) : Int) := by decide +kernel
  have := key ⟨x.toNat, by omega⟩
  simp only at this
  rwa [show ((x.toNat : Nat) : Int) = x from by omega] at this
theorem by_drop : ∀ (l : List Int) (j : Nat) (h : j < l.length), ((byTxt l).drop (8 * j)).take 8 = digs l[j] 8 8
  | [], j, h => by simp at h
  | x :: l, 0, h => by
    have e : byTxt (x :: l) = digs x 8 8 ++ byTxt l := rfl
    rw [e, Nat.mul_zero, List.drop_zero, List.take_append_of_le_length (by rw [digs_length]; omega), List.take_of_length_le (by rw [digs_length]; omega)]; rfl
  | x :: l, j + 1, h => by
    have e : byTxt (x :: l) = digs x 8 8 ++ byTxt l := rfl
    rw [e, show 8 * (j + 1) = (digs x 8 8).length + 8 * j from by rw [digs_length]; omega, List.drop_append]
    rw [List.drop_of_length_le (by omega), List.nil_append, show (digs x 8 8).length + 8 * j - (digs x 8 8).length = 8 * j from by omega]
    rw [by_drop l j (by simpa using h)]; rfl
theorem by_inR (l : List Int) : inR 48 49 (byTxt l) = true := by
  unfold inR byTxt
  rw [List.all_eq_true]
  intro c hc
  rw [List.mem_flatMap] at hc
  obtain ⟨x, -, hc⟩ := hc
  unfold digs at hc
  rw [List.mem_map] at hc
  obtain ⟨j, -, rfl⟩ := hc
  have h1 := dg_val x (8 - 1 - j)
  have h2 : 0 ≤ x / 2 ^ (8 - 1 - j) % 2 := Int.emod_nonneg _ (by decide)
  have h3 : x / 2 ^ (8 - 1 - j) % 2 < 2 := Int.emod_lt_of_pos _ (by decide)
  exact decide_eq_true (by omega)
theorem by_back (l : List Int) (h : byOk l = true) : byV l = ⟨(byTxt l).toArray⟩ ∧ (byV l).size = 8 * l.length ∧ bobOk (byV l) = true ∧ bobL (byV l) = l ∧ l.length ≤ 50 := by
  have hl : l.length ≤ 50 := by unfold byOk at h; exact of_decide_eq_true (Bool.and_eq_true_iff.1 h).1
  have hall : ∀ x ∈ l, 0 ≤ x ∧ x ≤ 255 := by
    unfold byOk at h
    have h2 := (Bool.and_eq_true_iff.1 h).2
    rw [List.all_eq_true] at h2
    exact fun x hx => of_decide_eq_true (h2 x hx)
  have e : byV l = ⟨(byTxt l).toArray⟩ := by unfold byV; rw [if_pos h]
  have hs : (byV l).size = 8 * l.length := by rw [e, ← byTxt_len]; simp [ByteArray.size]
  have hd : (byV l).data.toList = byTxt l := by rw [e]
  have hok : bobOk (byV l) = true := by
    unfold bobOk isB
    rw [hd, by_inR, byTxt_len, decide_eq_true (show 8 * l.length ≤ 400 by omega), hs]
    simp
  refine ⟨e, hs, hok, ?_, hl⟩
  unfold bobL
  rw [if_pos hok, hs, show 8 * l.length / 8 = l.length from by omega]
  apply List.ext_getElem
  · rw [bytesL_length]
  · intro j h1 h2
    simp only [bytesL]
    rw [List.getElem_map, List.getElem_range, octet_list, hd, by_drop l j h2]
    exact val_digs _ (hall _ (List.getElem_mem h2)).1 (hall _ (List.getElem_mem h2)).2
theorem by_ok {l : List Int} (h : l.length ≤ 50) (h2 : ∀ x ∈ l, 0 ≤ x ∧ x ≤ 255) : byOk l = true := by
  unfold byOk
  rw [decide_eq_true h, Bool.true_and, List.all_eq_true]
  exact fun x hx => decide_eq_true (h2 x hx)
end Go.Proofs.Ytijmfienaoeboaa
