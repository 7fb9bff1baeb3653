/- Which lists of words are codes; their shares: plain facts. -/
import Derived.Test.YtmhdjimdhcephabBits
import Derived.Test.YtmhdjimdhcephabWlP
namespace Go.Proofs.Ytmhdjimdhcephab
open Go Go.RowKit
set_option linter.unusedVariables false

/-- A word of a code. -/
def cwOk (s : ByteArray) : Bool := decide (1 ≤ s.size) && (decide (s.size ≤ 12) && isB s.data.toList)
/-- Different such words. -/
def cdPre (ws : List ByteArray) : Bool := ws.all cwOk && decide ws.Nodup
theorem cdPre_nil : cdPre [] = true := by simp [cdPre]
theorem cdPre_snoc (ws : List ByteArray) (x : ByteArray) : cdPre (ws ++ [x]) = (cdPre ws && (cwOk x && !inW ws x)) := by
  unfold cdPre
  have e : decide ((ws ++ [x]).Nodup) = (decide ws.Nodup && !inW ws x) := by
    rw [Bool.eq_iff_iff, decide_eq_true_iff, nodup_snoc]
    by_cases h : x ∈ ws
    · rw [inW_t h]; simp [h]
    · rw [inW_f h]; simp [h]
  rw [e, List.all_append]
  simp only [List.all_cons, List.all_nil, Bool.and_true]
  generalize ws.all cwOk = A
  generalize cwOk x = B
  generalize decide ws.Nodup = C
  generalize inW ws x = D
  cases A <;> cases B <;> cases C <;> cases D <;> rfl
theorem cdPre_take (ws : List ByteArray) (k : Nat) (h : cdPre ws = true) : cdPre (ws.take k) = true := by
  unfold cdPre at h ⊢
  obtain ⟨h1, h2⟩ := Bool.and_eq_true_iff.1 h
  rw [Bool.and_eq_true_iff]
  refine ⟨?_, decide_eq_true ((of_decide_eq_true h2).sublist (List.take_sublist _ _))⟩
  rw [List.all_eq_true] at h1 ⊢
  exact fun x hx => h1 x (List.mem_of_mem_take hx)
theorem cdPre_take_succ (ws : List ByteArray) (k : Nat) (h : k < ws.length) : cdPre (ws.take (k + 1)) = (cdPre (ws.take k) && (cwOk ws[k] && !inW (ws.take k) ws[k])) := by
  rw [List.take_succ_eq_append_getElem h, cdPre_snoc]
theorem cdPre_bad (ws : List ByteArray) (k : Nat) (h : k < ws.length) (hb : (cwOk ws[k] && !inW (ws.take k) ws[k]) = false) : cdPre ws = false := by
  cases e : cdPre ws
  · rfl
  · have := cdPre_take ws (k + 1) e
    rw [cdPre_take_succ ws k h, hb] at this
    simp at this
/-- A code. -/
def cdOk (ws : List ByteArray) : Bool := decide (1 ≤ ws.length) && (decide (ws.length ≤ 16) && cdPre ws)
theorem cwOk_parts {s : ByteArray} (h : cwOk s = true) : 1 ≤ s.size ∧ s.size ≤ 12 ∧ isB s.data.toList = true := by
  unfold cwOk at h
  obtain ⟨h1, h2⟩ := Bool.and_eq_true_iff.1 h
  obtain ⟨h3, h4⟩ := Bool.and_eq_true_iff.1 h2
  exact ⟨of_decide_eq_true h1, of_decide_eq_true h3, h4⟩
theorem cwOk_bits {s : ByteArray} (h : cwOk s = true) : inR 48 49 s.data.toList = true := by
  have := (cwOk_parts h).2.2
  unfold isB at this
  exact (Bool.and_eq_true_iff.1 this).2
theorem cdPre_parts {ws : List ByteArray} (h : cdPre ws = true) : ws.Nodup ∧ ∀ s ∈ ws, cwOk s = true := by
  unfold cdPre at h
  obtain ⟨h1, h2⟩ := Bool.and_eq_true_iff.1 h
  rw [List.all_eq_true] at h1
  exact ⟨of_decide_eq_true h2, h1⟩
theorem cdOk_parts {ws : List ByteArray} (h : cdOk ws = true) : 1 ≤ ws.length ∧ ws.length ≤ 16 ∧ ws.Nodup ∧ ∀ s ∈ ws, cwOk s = true := by
  unfold cdOk at h
  obtain ⟨h1, h2⟩ := Bool.and_eq_true_iff.1 h
  obtain ⟨h3, h4⟩ := Bool.and_eq_true_iff.1 h2
  exact ⟨of_decide_eq_true h1, of_decide_eq_true h3, cdPre_parts h4⟩

/-- All words are words of a code, but may be equal. -/
def cdAll (ws : List ByteArray) : Bool := ws.all cwOk
theorem cdAll_snoc (ws : List ByteArray) (k : Nat) (h : k < ws.length) : cdAll (ws.take (k + 1)) = (cdAll (ws.take k) && cwOk ws[k]) := by
  unfold cdAll
  rw [List.take_succ_eq_append_getElem h, List.all_append]; simp
theorem cdAll_bad (ws : List ByteArray) (k : Nat) (h : k < ws.length) (hb : cwOk ws[k] = false) : cdPre ws = false :=
  cdPre_bad ws k h (by rw [hb]; rfl)
theorem cdAll_full {ws : List ByteArray} (h : cdAll ws = true) : cdPre ws = decide ws.Nodup := by
  unfold cdPre; unfold cdAll at h; rw [h]; rfl

/-- The shares of words, times 4096. -/
def kr : List ByteArray → Nat
  | [] => 0
  | x :: xs => 2 ^ (12 - x.size) + kr xs
theorem kr_app : ∀ (a b : List ByteArray), kr (a ++ b) = kr a + kr b
  | [], b => by simp [kr]
  | x :: a, b => by rw [List.cons_append, kr, kr, kr_app a b]; omega
theorem kr_snoc (ws : List ByteArray) (k : Nat) (h : k < ws.length) : kr (ws.take (k + 1)) = kr (ws.take k) + 2 ^ (12 - ws[k].size) := by
  rw [List.take_succ_eq_append_getElem h, kr_app]; simp [kr]
theorem kr_le : ∀ (ws : List ByteArray), kr ws ≤ 4096 * ws.length
  | [] => by simp [kr]
  | x :: xs => by
    have := kr_le xs
    have h : 2 ^ (12 - x.size) ≤ 2 ^ 12 := Nat.pow_le_pow_right (by decide) (by omega)
    rw [kr, List.length_cons]; omega
end Go.Proofs.Ytmhdjimdhcephab
