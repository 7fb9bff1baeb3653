/- Plain: the levels of bits by kind; the end of the wire behind each bit. -/
import Derived.Test.YtmhdjimdhcephaaLvP
namespace Go.Proofs.Ytmhdjimdhcephaa
open Go Go.RowKit
set_option linter.unusedVariables false

def sg (b : Bool) : Int := if b then 1 else -1
/-- The levels of a bit of a kind, with the last level a and the last mark m. -/
def lsK (κ : Nat) (b : Bool) (a m : Int) : List Int :=
  if κ = 0 then [sg b] else if κ = 1 then [-sg b * a] else if κ = 2 then [-sg b, sg b] else if κ = 3 then [sg b * a, -(sg b * a)] else if κ = 4 then (if b then [-m] else [0]) else (if b then (if a = 0 then [-m] else [0]) else [a])
/-- The end of the wire behind further levels. -/
def psE : List Int → Int × Int → Int × Int
  | [], e => e
  | x :: t, e => psE t (x, if x = 0 then e.2 else x)
def stE (κ : Nat) : Int × Int := if κ = 1 then (-1, 0) else if κ = 3 then (-1, 0) else if κ = 4 then (0, -1) else if κ = 5 then (0, -1) else (0, 0)
def lvS (κ : Nat) (l : List UInt8) : Nat → Int × Int
  | 0 => stE κ
  | k + 1 => psE (lsK κ (l.getD k 0 == 49) (lvS κ l k).1 (lvS κ l k).2) (lvS κ l k)
def lvL (κ : Nat) (l : List UInt8) : Nat → List Int
  | 0 => []
  | k + 1 => lvL κ l k ++ lsK κ (l.getD k 0 == 49) (lvS κ l k).1 (lvS κ l k).2
def wdK (κ : Nat) : Nat := if κ = 2 then 2 else if κ = 3 then 2 else 1
def tri (x : Int) : Prop := x = -1 ∨ x = 0 ∨ x = 1
theorem tri_bd {x : Int} (h : tri x) : -1 ≤ x ∧ x ≤ 1 := by unfold tri at h; omega
theorem tri_of {x : Int} (h : -1 ≤ x ∧ x ≤ 1) : tri x := by unfold tri; omega
theorem tri_neg {x : Int} (h : tri x) : tri (-x) := by unfold tri at *; omega
theorem tri_sg (b : Bool) : tri (sg b) := by cases b <;> simp [tri, sg]
theorem tri_mul {x y : Int} (h : tri x) (h2 : tri y) : tri (x * y) := by
  unfold tri at *
  rcases h with rfl | rfl | rfl <;> rcases h2 with rfl | rfl | rfl <;> simp
theorem lsK_tri {κ : Nat} {b : Bool} {a m : Int} (ha : tri a) (hm : tri m) : ∀ x ∈ lsK κ b a m, tri x := by
  intro x hx
  have h0 : tri 0 := .inr (.inl rfl)
  unfold lsK at hx
  split at hx
  · simp at hx; subst hx; exact tri_sg b
  · split at hx
    · simp at hx; subst hx; exact tri_mul (tri_neg (tri_sg b)) ha
    · split at hx
      · simp at hx; rcases hx with rfl | rfl
        · exact tri_neg (tri_sg b)
        · exact tri_sg b
      · split at hx
        · simp at hx; rcases hx with rfl | rfl
          · exact tri_mul (tri_sg b) ha
          · exact tri_neg (tri_mul (tri_sg b) ha)
        · split at hx
          · split at hx
            · simp at hx; subst hx; exact tri_neg hm
            · simp at hx; subst hx; exact h0
          · split at hx
            · split at hx
              · simp at hx; subst hx; exact tri_neg hm
              · simp at hx; subst hx; exact h0
            · simp at hx; subst hx; exact ha
theorem lsK_len (κ : Nat) (b : Bool) (a m : Int) : (lsK κ b a m).length = wdK κ := by
  unfold lsK wdK
  by_cases h0 : κ = 0
  · subst h0; simp
  by_cases h1 : κ = 1
  · subst h1; simp
  by_cases h2 : κ = 2
  · subst h2; simp
  by_cases h3 : κ = 3
  · subst h3; simp
  rw [if_neg h0, if_neg h1, if_neg h2, if_neg h3, if_neg h2, if_neg h3]
  split
  · split <;> rfl
  · split
    · split <;> rfl
    · rfl
theorem wdK_bd (κ : Nat) : 1 ≤ wdK κ ∧ wdK κ ≤ 2 := by
  unfold wdK
  split
  · omega
  · split <;> omega
theorem psE_tri : ∀ {l : List Int} {e : Int × Int}, (∀ x ∈ l, tri x) → tri e.1 → tri e.2 → tri (psE l e).1 ∧ tri (psE l e).2
  | [], e, _, h1, h2 => ⟨h1, h2⟩
  | x :: t, e, h, h1, h2 => by
    rw [psE]
    refine psE_tri (fun y hy => h y (List.mem_cons_of_mem _ hy)) (h x List.mem_cons_self) ?_
    dsimp only
    split
    · exact h2
    · exact h x List.mem_cons_self
theorem stE_tri (κ : Nat) : tri (stE κ).1 ∧ tri (stE κ).2 := by
  unfold stE
  split
  · exact ⟨.inl rfl, .inr (.inl rfl)⟩
  split
  · exact ⟨.inl rfl, .inr (.inl rfl)⟩
  split
  · exact ⟨.inr (.inl rfl), .inl rfl⟩
  split
  · exact ⟨.inr (.inl rfl), .inl rfl⟩
  · exact ⟨.inr (.inl rfl), .inr (.inl rfl)⟩
theorem lvS_tri (κ : Nat) (l : List UInt8) : ∀ k, tri (lvS κ l k).1 ∧ tri (lvS κ l k).2
  | 0 => stE_tri κ
  | k + 1 => by
    obtain ⟨h1, h2⟩ := lvS_tri κ l k
    rw [lvS]
    exact psE_tri (lsK_tri h1 h2) h1 h2
theorem lvL_tri (κ : Nat) (l : List UInt8) : ∀ k, ∀ x ∈ lvL κ l k, tri x
  | 0 => by simp [lvL]
  | k + 1 => by
    intro x hx
    rw [lvL] at hx
    rcases List.mem_append.1 hx with h | h
    · exact lvL_tri κ l k x h
    · obtain ⟨h1, h2⟩ := lvS_tri κ l k
      exact lsK_tri h1 h2 x h
theorem lvL_len (κ : Nat) (l : List UInt8) : ∀ k, (lvL κ l k).length = k * wdK κ
  | 0 => by simp [lvL]
  | k + 1 => by rw [lvL, List.length_append, lvL_len κ l k, lsK_len, Nat.succ_mul]
def kdB (kind : Int) : Bool := decide (0 ≤ kind ∧ kind ≤ 5)
def loOk (kind : Int) (l : List UInt8) : Bool := kdB kind && (decide (l.length ≤ 400) && inR 48 49 l)
def loV (kind : Int) (l : List UInt8) : List Int := if loOk kind l then lvL kind.toNat l l.length else []
theorem loV_len (kind : Int) (l : List UInt8) : (loV kind l).length ≤ 800 := by
  unfold loV
  split
  · rename_i h
    unfold loOk at h
    obtain ⟨h1, h2⟩ := Bool.and_eq_true_iff.1 h
    have h3 := of_decide_eq_true (Bool.and_eq_true_iff.1 h2).1
    have := (wdK_bd kind.toNat).2
    rw [lvL_len]
    exact Nat.le_trans (Nat.mul_le_mul h3 this) (by decide)
  · simp
end Go.Proofs.Ytmhdjimdhcephaa
