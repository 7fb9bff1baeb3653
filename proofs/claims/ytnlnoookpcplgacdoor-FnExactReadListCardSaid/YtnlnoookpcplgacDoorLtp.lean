/- The text of a list: plain facts. -/
import Derived.Test.YtnlnoookpcplgacDoorRd
import Derived.Test.YtnlnoookpcplgacDoorDec
import Derived.Test.YtnlnoookpcplgacDoorBtw
import Derived.Test.YtnlnoookpcplgacDoorGrt
import Derived.Lib.ItoaLen
import Derived.Lib.Join
import Derived.Deep.QuietTactic
namespace Go.Proofs.YtnlnoookpcplgacDoor
open Go Go.RowKit
set_option linter.unusedVariables false

theorem quiet_leftq2 {P : Program} {f : FuncId} {args : Array Value} {w : World} {q n : Nat} {v : Value}
    (h : Calls P f args (w.drewN (q + n)) fun e w' => e = .returned v ∧ w.drewN (q + n) = w') : Calls P f args (w.drewN (q + n)) fun e w'' => e = .returned v ∧ ∃ m, w'' = w.drewN (q + m) :=
  h.mono fun _ _ ⟨he, hm⟩ => ⟨he, n, hm.symm⟩
/-- May a number stand in a list? -/
def inV (n : Int) : Bool := decide (-1000000000000000 ≤ n ∧ n ≤ 1000000000000000)
def ltOk (l : List Int) : Bool := l.all inV && decide (l.length ≤ 64)
def jt (l : List Int) : List UInt8 := Lib.join (l.map Lib.itoa) [44]
def tx (n : Int) : ByteArray := ⟨(Lib.itoa n).toArray⟩
def jT (l : List Int) : ByteArray := ⟨(jt l).toArray⟩
def ltV (l : List Int) : ByteArray := if ltOk l = true then (if l = [] then ⟨#[110, 111, 110, 101]⟩ else jT l) else ⟨#[]⟩
theorem all_bad2 {α : Type} (f : α → Bool) (xs : List α) (k : Nat) (h : k < xs.length) (hb : f xs[k] = false) : xs.all f = false := by
  cases e : xs.all f
  · rfl
  · rw [List.all_eq_true] at e
    rw [e _ (List.getElem_mem h)] at hb
    cases hb
theorem all_take_succ2 {α : Type} (f : α → Bool) (xs : List α) (k : Nat) (h : k < xs.length) : (xs.take (k + 1)).all f = ((xs.take k).all f && f xs[k]) := by
  rw [List.take_succ_eq_append_getElem h, List.all_append]; simp
theorem jt_one (x : Int) : jt [x] = Lib.itoa x := Lib.join_one _ _
theorem jt_snoc {l : List Int} (x : Int) (h : l ≠ []) : jt (l ++ [x]) = jt l ++ [44] ++ Lib.itoa x := by
  cases l with
  | nil => exact absurd rfl h
  | cons a r =>
    unfold jt
    rw [List.map_append, List.map_cons, List.cons_append, Lib.join_cons, List.map_cons, List.map_nil, Lib.join_cons]
    simp [Lib.joinTail]
theorem jT_one (x : Int) : jT [x] = tx x := by unfold jT tx; rw [jt_one]
theorem jT_snoc {l : List Int} (x : Int) (h : l ≠ []) : jT (l ++ [x]) = jT l ++ ⟨#[44]⟩ ++ tx x := by
  refine ByteArray.ext (Array.toList_inj.1 ?_)
  unfold jT tx
  rw [jt_snoc x h]
  simp
theorem nil_add (d : ByteArray) : (⟨#[]⟩ : ByteArray) ++ d = d := by
  refine ByteArray.ext (Array.toList_inj.1 ?_)
  simp
theorem take_ne {l : List Int} {k : Nat} (h0 : 0 < k) (h : k ≤ l.length) : l.take k ≠ [] := by
  intro e
  have := congrArg List.length e
  rw [List.length_take, Nat.min_eq_left h] at this
  have h2 : k = 0 := this
  omega
theorem tx_len {x : Int} (h : inV x = true) : (tx x).size ≤ 21 := by
  have hx := of_decide_eq_true h
  have := Lib.itoa_length_le x (by omega) (by omega)
  show (Lib.itoa x).toArray.size ≤ 21
  simpa using this
theorem jT_len {l : List Int} : ∀ k, k ≤ l.length → (l.take k).all inV = true → (jT (l.take k)).size ≤ 22 * k
  | 0, _, _ => by show 0 ≤ _; omega
  | k + 1, hk, ha => by
    have hkl : k < l.length := hk
    rw [all_take_succ2 inV l k hkl] at ha
    obtain ⟨a1, a2⟩ := Bool.and_eq_true_iff.1 ha
    have ih := jT_len k (by omega) a1
    have hd := tx_len a2
    rw [List.take_succ_eq_append_getElem hkl]
    by_cases h0 : k = 0
    · subst h0
      rw [List.take_zero, List.nil_append, jT_one]
      omega
    · rw [jT_snoc _ (take_ne (by omega) (by omega)), ByteArray.size_append, ByteArray.size_append]
      show _ + 1 + _ ≤ _
      omega
theorem itoa_cons (x : Int) : Lib.itoa x ≠ [] := by
  intro e
  rcases Int.lt_or_le x 0 with h | h
  · obtain ⟨u, rfl⟩ : ∃ u : Nat, x = -(u : Int) := ⟨x.natAbs, by omega⟩
    rw [Lib.itoa_neg u (by omega)] at e
    cases e
  · have h2 : 0 < (Lib.itoa x).length := by
      unfold Lib.itoa
      rw [if_neg (by omega)]
      rw [Lib.decDigits]; split <;> simp
    rw [e] at h2
    simp at h2
theorem jT_full {l : List Int} (h : l ≠ []) : ((jT l).toList == (⟨#[]⟩ : ByteArray).toList) = false := by
  rw [← beq_toListBytes]
  cases l with
  | nil => exact absurd rfl h
  | cons a r =>
    have e : (jT (a :: r)).data.toList = Lib.itoa a ++ Lib.joinTail [44] (r.map Lib.itoa) := by
      unfold jT jt
      rw [List.map_cons, Lib.join_cons]
    cases hh : (jT (a :: r) == (⟨#[]⟩ : ByteArray))
    · rfl
    · exfalso
      have e2 : jT (a :: r) = ⟨#[]⟩ := bytes_eq hh
      rw [e2] at e
      have := congrArg List.length e
      rw [List.length_append] at this
      have h3 : 0 < (Lib.itoa a).length := List.length_pos_iff.2 (itoa_cons a)
      simp at this
      omega
theorem lt_no {l : List Int} (h : ltOk l = false) : ltV l = ⟨#[]⟩ := by unfold ltV; rw [h]; rfl
theorem lt_none : ltV [] = ⟨#[110, 111, 110, 101]⟩ := by decide
theorem lt_yes {l : List Int} (h : ltOk l = true) (h0 : l ≠ []) : ltV l = jT l := by unfold ltV; rw [if_pos h, if_neg h0]
end Go.Proofs.YtnlnoookpcplgacDoor
