/- What the walk of the law of ReserveSlots carries. -/
import Derived.Test.YtjhgkkecconcaabRvK
namespace Go.Proofs.Ytjhgkkecconcaab
open Go Go.RowKit
set_option linter.unusedVariables false

theorem own_apart {w w' : World} {base size n hi : Nat} {e : TypeId} {v : Value} {xs : List Value} {row : Option Nat} (h : w.ownsRow base e size v n xs) (ht : ∀ k, v.ownBlock = some k → k < hi) (hg : w.grownBy w' row) (hr : ∀ k, row = some k → k < base ∨ hi ≤ k) : w'.ownsRow base e size v n xs := by
  refine World.ownsRow.kept h hg ?_
  cases hv : v.ownBlock with
  | none => exact .inl rfl
  | some k =>
    refine .inr fun e' => ?_
    have h1 := World.ownsRow.lt h k hv
    have h2 := ht k hv
    have := hr k e'.symm
    omega
theorem OwnG.marked {w w' : World} {lo hi lo2 hi2 : Nat} {v v2 : Value} {us : List Value} {g : List (List Int)} {l2 : List Int} (h : OwnG w lo hi v us g) (x : OwnIn w lo2 hi2 v2 l2) (hg : w.grownBy w' v2.ownBlock) (hd : hi ≤ lo2 ∨ hi2 ≤ lo) : OwnG w' lo hi v us g := by
  have hr : ∀ k, v2.ownBlock = some k → k < lo ∨ hi ≤ k := fun k hk => by have := x.2.1 k hk; omega
  exact ⟨own_apart h.row h.top hg hr, h.len, fun i h1 h2 => own_apart (h.each i h1 h2) (h.tops _ (List.getElem_mem h2)) hg hr, h.apart, h.top, h.tops, Nat.le_trans h.size hg.size⟩
theorem RdB.chg {w w' : World} {hi lo2 hi2 : Nat} {v : Value} {l : List Int} (h : RdB w hi v l) (hc : ChgG lo2 hi2 w w') (hd : hi ≤ lo2) : RdB w' hi v l := by
  refine ⟨?_, h.2.1, by rw [hc.size]; exact h.2.2⟩
  obtain ⟨A, n, c, rfl, hn, h1, h2, h3⟩ := h.1
  refine ⟨A, n, c, rfl, hn, h1, h2, fun h0 => ?_⟩
  obtain ⟨b, o, ea, hlt, hcl⟩ := h3 h0
  subst ea
  have hbh := h.2.1 b o ⟨n, c, rfl, h0⟩
  refine ⟨b, o, rfl, by rw [hc.size]; exact hlt, fun i hi' => ?_⟩
  exact (World.cell?_of_block (hc.block b (.inl (by omega)))).trans (hcl i hi')
theorem tot_snoc' (g : List (List Int)) (a : List Int) : tot (g ++ [a]) = tot g + a.length := by
  unfold tot; rw [List.map_append, List.sum_append_nat]; simp
theorem rvG_small {f : Nat} : ∀ (k : Nat) (L : List Int) (acc g : List (List Int)), rvOk L f → acc.length + k ≤ 300 → tot acc ≤ 20 * acc.length → rvG f k L acc = some g → g.length ≤ 300 ∧ tot g ≤ 20 * g.length
  | 0, L, acc, g, h, hk, ht, e => by
    by_cases h0 : 0 < L.sum
    · rw [rvG_full h0] at e; cases e
    · rw [rvG_stop h0] at e; injection e with e; subst e; exact ⟨by omega, ht⟩
  | k + 1, L, acc, g, h, hk, ht, e => by
    by_cases h0 : 0 < L.sum
    · rw [rvG_go h0] at e
      have := (rvF_sum h).2
      have := h.2.2.2.2
      exact rvG_small k _ _ g (rvF_ok h).1 (by simp; omega) (by rw [tot_snoc', List.length_append]; simp; omega) e
    · rw [rvG_stop h0] at e; injection e with e; subst e; exact ⟨by omega, ht⟩
theorem rvV_small (l : List Int) (f : Int) : (rvV l f).length ≤ 2000000 ∧ tot (rvV l f) ≤ 2000000 := by
  unfold rvV
  cases e : rvO l f with
  | none => exact ⟨by simp, by simp [tot]⟩
  | some g =>
    have h : ndB l = true ∧ rgB 1 20 f = true := by
      cases h1 : ndB l
      · rw [rvO_no (.inl h1)] at e; cases e
      · cases h2 : rgB 1 20 f
        · rw [rvO_no (.inr h2)] at e; cases e
        · exact ⟨rfl, rfl⟩
    obtain ⟨h1, h2, h3⟩ := rvO_yes h.1 h.2
    rw [h3] at e
    have := rvG_small 300 l [] g h1 (by simp) (by simp [tot]) e
    exact ⟨by simp; omega, by simp; omega⟩
end Go.Proofs.Ytjhgkkecconcaab
