/- Weights, and the mean length of words: plain facts. -/
import Derived.Test.YtmhdjimdhcephabCdP
namespace Go.Proofs.Ytmhdjimdhcephab
open Go Go.RowKit
set_option linter.unusedVariables false

/-- Numbers from 1 to a greatest one, for 2 to 16 words. -/
def wgOk (most : Int) (l : List Int) : Bool := decide (2 ≤ l.length) && (decide (l.length ≤ 16) && l.all fun x => decide (1 ≤ x ∧ x ≤ most))
theorem wgOk_parts {most : Int} {l : List Int} (h : wgOk most l = true) : 2 ≤ l.length ∧ l.length ≤ 16 ∧ ∀ x ∈ l, 1 ≤ x ∧ x ≤ most := by
  unfold wgOk at h
  obtain ⟨h1, h2⟩ := Bool.and_eq_true_iff.1 h
  obtain ⟨h3, h4⟩ := Bool.and_eq_true_iff.1 h2
  rw [List.all_eq_true] at h4
  exact ⟨of_decide_eq_true h1, of_decide_eq_true h3, fun x hx => of_decide_eq_true (h4 x hx)⟩
theorem wgOk_mk {most : Int} {l : List Int} (h1 : 2 ≤ l.length) (h2 : l.length ≤ 16) (h3 : ∀ x ∈ l, 1 ≤ x ∧ x ≤ most) : wgOk most l = true := by
  unfold wgOk
  rw [decide_eq_true h1, decide_eq_true h2, Bool.true_and, Bool.true_and, List.all_eq_true]
  exact fun x hx => decide_eq_true (h3 x hx)
theorem wgOk_bad {most : Int} {l : List Int} {x : Int} (hx : x ∈ l) (h : ¬ (1 ≤ x ∧ x ≤ most)) : wgOk most l = false := by
  cases e : wgOk most l
  · rfl
  · exact absurd ((wgOk_parts e).2.2 x hx) h
theorem wgOk_len {most : Int} {l : List Int} (h : ¬ (2 ≤ l.length ∧ l.length ≤ 16)) : wgOk most l = false := by
  cases e : wgOk most l
  · rfl
  · exact absurd ⟨(wgOk_parts e).1, (wgOk_parts e).2.1⟩ h
/-- The least and the greatest number tell. -/
theorem wgOk_min {most m M : Int} {l : List Int} (h : 2 ≤ l.length ∧ l.length ≤ 16) (hm : m ∈ l) (hl : ∀ x ∈ l, m ≤ x) (hM : M ∈ l) (hL : ∀ x ∈ l, x ≤ M) : wgOk most l = (decide (1 ≤ m) && decide (M ≤ most)) := by
  by_cases h1 : 1 ≤ m
  · by_cases h2 : M ≤ most
    · rw [decide_eq_true h1, decide_eq_true h2, wgOk_mk h.1 h.2 (fun x hx => ⟨by have := hl x hx; omega, by have := hL x hx; omega⟩)]; rfl
    · rw [decide_eq_false h2, wgOk_bad hM (fun e => h2 e.2)]; simp
  · rw [decide_eq_false h1, wgOk_bad hm (fun e => h1 e.1)]; rfl

/-- Sums of numbers f 0, f 1, .. -/
def sm (f : Nat → Int) : Nat → Int
  | 0 => 0
  | k + 1 => sm f k + f k
theorem sm_bd (f : Nat → Int) (lo hi : Int) (n : Nat) (h : ∀ k, k < n → lo ≤ f k ∧ f k ≤ hi) : ∀ k, k ≤ n → lo * k ≤ sm f k ∧ sm f k ≤ hi * k
  | 0, _ => by simp [sm]
  | k + 1, hk => by
    obtain ⟨h1, h2⟩ := sm_bd f lo hi n h k (by omega)
    obtain ⟨h3, h4⟩ := h k (by omega)
    have e1 : lo * ((k + 1 : Nat) : Int) = lo * k + lo := by rw [Int.natCast_add, Int.mul_add]; simp
    have e2 : hi * ((k + 1 : Nat) : Int) = hi * k + hi := by rw [Int.natCast_add, Int.mul_add]; simp
    rw [sm, e1, e2]
    omega
/-- A weight times the length of its word; a weight. -/
def wl (wt : List Int) (ws : List ByteArray) (k : Nat) : Int := wt.getD k 0 * ((ws.getD k ByteArray.empty).size : Int)
def wo (wt : List Int) (k : Nat) : Int := wt.getD k 0
def MW : Int := 62500000000000
theorem wl_at {wt : List Int} {ws : List ByteArray} {k : Nat} (h1 : k < wt.length) (h2 : k < ws.length) : wl wt ws k = wt[k] * (ws[k].size : Int) := by
  unfold wl; simp [List.getD, h1, h2]
theorem wo_at {wt : List Int} {k : Nat} (h1 : k < wt.length) : wo wt k = wt[k] := by unfold wo; simp [List.getD, h1]
theorem wl_one {a b : Int} (h1 : 1 ≤ a) (h2 : a ≤ 62500000000000) (h3 : 1 ≤ b) (h4 : b ≤ 12) : 1 ≤ a * b ∧ a * b ≤ 750000000000000 := by
  constructor
  · have := Int.mul_le_mul h1 h3 (by decide) (by omega); omega
  · have := Int.mul_le_mul h2 h4 (by omega) (by decide); omega
/-- A code with its weights. -/
def mlOk (ws : List ByteArray) (wt : List Int) : Bool := cdOk ws && (wgOk 62500000000000 wt && decide (ws.length = wt.length))
theorem mlOk_parts {ws : List ByteArray} {wt : List Int} (h : mlOk ws wt = true) : cdOk ws = true ∧ wgOk 62500000000000 wt = true ∧ ws.length = wt.length := by
  unfold mlOk at h
  obtain ⟨h1, h2⟩ := Bool.and_eq_true_iff.1 h
  obtain ⟨h3, h4⟩ := Bool.and_eq_true_iff.1 h2
  exact ⟨h1, h3, of_decide_eq_true h4⟩
theorem ml_each {ws : List ByteArray} {wt : List Int} (h : mlOk ws wt = true) (k : Nat) (hk : k < wt.length) : (1 ≤ wl wt ws k ∧ wl wt ws k ≤ 750000000000000) ∧ (1 ≤ wo wt k ∧ wo wt k ≤ 62500000000000) := by
  obtain ⟨h1, h2, h3⟩ := mlOk_parts h
  have hw := (wgOk_parts h2).2.2 wt[k] (List.getElem_mem hk)
  have hc := cwOk_parts ((cdOk_parts h1).2.2.2 (ws[k]'(by omega)) (List.getElem_mem (by omega)))
  rw [wl_at hk (by omega), wo_at hk]
  exact ⟨wl_one hw.1 hw.2 (by omega) (by omega), hw⟩
theorem ml_bd {ws : List ByteArray} {wt : List Int} (h : mlOk ws wt = true) (k : Nat) (hk : k ≤ wt.length) : ((k : Int) ≤ sm (wl wt ws) k ∧ sm (wl wt ws) k ≤ 12000000000000000) ∧ ((k : Int) ≤ sm (wo wt) k ∧ sm (wo wt) k ≤ 1000000000000000) := by
  have h16 := (wgOk_parts (mlOk_parts h).2.1).2.1
  have a := sm_bd (wl wt ws) 1 750000000000000 wt.length (fun j hj => (ml_each h j hj).1) k hk
  have b := sm_bd (wo wt) 1 62500000000000 wt.length (fun j hj => (ml_each h j hj).2) k hk
  omega
end Go.Proofs.Ytmhdjimdhcephab
