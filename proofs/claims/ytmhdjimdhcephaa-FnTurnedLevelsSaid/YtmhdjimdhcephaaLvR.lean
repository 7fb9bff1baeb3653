/- Plain: levels read, block by block. -/
import Derived.Test.YtmhdjimdhcephaaLvG
namespace Go.Proofs.Ytmhdjimdhcephaa
open Go Go.RowKit
set_option linter.unusedVariables false

/-- The block k of T levels. -/
def blkI (l : List Int) (T k : Nat) : List Int := (l.drop (k * T)).take T
/-- A block read: one bit more, and the end of the wire behind it. -/
def stepR (κ : Nat) (acc : List UInt8 × (Int × Int)) (ls : List Int) : List UInt8 × (Int × Int) := (acc.1 ++ [if oneK κ ls acc.2.1 then 49 else 48], psE ls acc.2)
def rdK (κ : Nat) (l : List Int) (T : Nat) : Nat → List UInt8 × (Int × Int)
  | 0 => ([], stE κ)
  | k + 1 => stepR κ (rdK κ l T k) (blkI l T k)
theorem rdK_len (κ : Nat) (l : List Int) (T : Nat) : ∀ k, (rdK κ l T k).1.length = k
  | 0 => rfl
  | k + 1 => by rw [rdK, stepR, List.length_append, rdK_len κ l T k]; rfl
theorem rdK_fold (κ : Nat) (l : List Int) (T : Nat) : ∀ k, ((List.range k).map (blkI l T)).foldl (stepR κ) ([], stE κ) = rdK κ l T k
  | 0 => rfl
  | k + 1 => by rw [List.range_succ, List.map_append, List.foldl_append, rdK_fold κ l T k]; rfl
theorem blkI_len {l : List Int} {T k : Nat} (h : k * T < l.length) : (blkI l T k).length = min T (l.length - k * T) := by
  unfold blkI; rw [List.length_take, List.length_drop]
theorem blkI_at {l : List Int} {T k i : Nat} (h : i < (blkI l T k).length) : (blkI l T k)[i] = l[k * T + i]'(by unfold blkI at h; simp at h; omega) := by
  simp [blkI]
theorem blkI_tri {l : List Int} (hl : ∀ x ∈ l, tri x) (T k : Nat) : ∀ x ∈ blkI l T k, tri x := fun x hx => hl x (List.mem_of_mem_drop (List.mem_of_mem_take hx))
theorem rdK_tri {κ : Nat} {l : List Int} (hl : ∀ x ∈ l, tri x) (T : Nat) : ∀ k, tri (rdK κ l T k).2.1 ∧ tri (rdK κ l T k).2.2
  | 0 => stE_tri κ
  | k + 1 => by
    obtain ⟨h1, h2⟩ := rdK_tri (κ := κ) hl T k
    rw [rdK, stepR]
    exact psE_tri (blkI_tri hl T k) h1 h2
/-- What can be read as a kind: levels, not more than 400 bits have, whole pairs. -/
def rmB (kind : Int) (l : List Int) : Bool := kdB kind && (lvB l && decide (l.length ≤ 400 * wdK kind.toNat))
def rdOk (kind : Int) (l : List Int) : Bool := rmB kind l && decide (l.length % wdK kind.toNat = 0)
def rdV (kind : Int) (l : List Int) : List UInt8 := if rdOk kind l then (rdK kind.toNat l (wdK kind.toNat) (l.length / wdK kind.toNat)).1 else []
theorem rd_no {kind : Int} {l : List Int} (h : rmB kind l = false ∨ ¬ l.length % wdK kind.toNat = 0) : rdOk kind l = false ∧ rdV kind l = [] := by
  have e : rdOk kind l = false := by
    unfold rdOk
    rcases h with h | h
    · rw [h]; rfl
    · rw [decide_eq_false h]; simp
  exact ⟨e, by unfold rdV; rw [e]; rfl⟩
theorem rd_yes {kind : Int} {l : List Int} (h1 : rmB kind l = true) (h2 : l.length % wdK kind.toNat = 0) : rdOk kind l = true ∧ rdV kind l = (rdK kind.toNat l (wdK kind.toNat) (l.length / wdK kind.toNat)).1 := by
  have e : rdOk kind l = true := by unfold rdOk; rw [h1, decide_eq_true h2]; rfl
  exact ⟨e, by unfold rdV; rw [e]; rfl⟩
end Go.Proofs.Ytmhdjimdhcephaa
