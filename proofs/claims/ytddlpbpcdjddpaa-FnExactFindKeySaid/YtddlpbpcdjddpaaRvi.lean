/- slices.Reverse of numbers. -/
import Derived.Test.YtddlpbpcdjddpaaRd
namespace Go.Proofs.Ytddlpbpcdjddpaa
open Go Go.RowKit
set_option linter.unusedVariables false
set_option maxRecDepth 100000
/-- A block begins with the bytes in the opposite order. -/
def RevI (l : List Int) (g : Nat) (w : World) : Prop := ∀ t, t < l.length → w.cell? ⟨g, t, none⟩ = some (.int .i64 (l.getD (l.length - 1 - t) 0))
/-- The row with i swaps done from both ends. -/
def swpI (l : List Int) (i t : Nat) : Int := if t < i ∨ l.length ≤ t + i then l.getD (l.length - 1 - t) 0 else l.getD t 0

theorem swpI_step (l : List Int) (n i j : Nat) (hn : l.length = n) (hj : n = i + j + 1) (hij : i < j) (t : Nat) (ht : t < n) :
    swpI l (i + 1) t = if t = i then l.getD j 0 else if t = j then l.getD i 0 else swpI l i t := by
  unfold swpI
  by_cases h1 : t = i
  · subst h1
    rw [if_pos (by omega), if_pos rfl]
    congr 1; omega
  · rw [if_neg h1]
    by_cases h2 : t = j
    · subst h2
      rw [if_pos (by omega), if_pos rfl]
      congr 1; omega
    · rw [if_neg h2]
      by_cases h3 : t < i ∨ l.length ≤ t + i
      · rw [if_pos h3, if_pos (by omega)]
      · rw [if_neg h3, if_neg (by omega)]
theorem swpI_end (l : List Int) (n i : Nat) (hn : l.length = n) (h1 : 2 * i ≤ n) (h2 : n ≤ 2 * i + 1) (t : Nat) (ht : t < n) : swpI l i t = l.getD (l.length - 1 - t) 0 := by
  unfold swpI
  by_cases h : t < i ∨ l.length ≤ t + i
  · rw [if_pos h]
  · rw [if_neg h]
    congr 1; omega
theorem cell_twoI (w : World) (g i j t : Nat) (a b x y z : Value) (hij : ¬ i = j) (hi : w.cell? ⟨g, i, none⟩ = some a) (hj : w.cell? ⟨g, j, none⟩ = some b) (hz : w.cell? ⟨g, t, none⟩ = some z) :
    (((w.setCell ⟨g, i, none⟩ x).setCell ⟨g, j, none⟩ y).drew).cell? ⟨g, t, none⟩ = some (if t = i then x else if t = j then y else z) := by
  show ((w.setCell ⟨g, i, none⟩ x).setCell ⟨g, j, none⟩ y).cell? ⟨g, t, none⟩ = _
  by_cases h2 : t = j
  · subst h2
    rw [if_neg (by omega), if_pos rfl]
    refine World.cell?_setCell_same _ _ _ (u := b) ?_
    rw [World.cell?_setCell_other _ _ _ _ (by intro e; injection e with _ e _; exact hij e)]
    exact hj
  · rw [World.cell?_setCell_other _ _ _ _ (by intro e; injection e with _ e _; exact h2 e.symm)]
    by_cases h1 : t = i
    · subst h1
      rw [if_pos rfl]
      exact World.cell?_setCell_same _ _ _ (u := a) hi
    · rw [if_neg h1, if_neg h2, World.cell?_setCell_other _ _ _ _ (by intro e; injection e with _ e _; exact h1 e.symm)]
      exact hz

set_option maxRecDepth 100000 in
theorem reverseI_any (w : World) (g cap : Nat) (l : List Int) (hl : l.length ≤ 400)
    (hc : ∀ t, t < l.length → w.cell? ⟨g, t, none⟩ = some (.int .i64 (l.getD t 0))) (hf : ∀ t, t < l.length → w.frozen? ⟨g, t, none⟩ = false) :
    Calls Try.prog 83 #[.slice (some ⟨g, 0, none⟩) l.length cap] w fun e w' => e = .returned (.tuple #[]) ∧ RevI l g w' ∧ Below g w w' ∧ w'.heap.size = w.heap.size := by
  generalize hn : l.length = n at hl
  rw [hn] at hc hf
  have HN := Lib.hid hn
  have HC := Lib.hid hc
  have HF := Lib.hid hf
  clear hn hc hf
  go_enter Try.func83, Try.ntmps83
  go_wp2
  go_loopw [2, 3] (fun a b wr => ∃ i : Nat, 2 * i ≤ n ∧ a = .int .i64 i ∧ b = .int .i64 ((n : Int) - 1 - i) ∧ Hid (∀ t, t < n → wr.cell? ⟨g, t, none⟩ = some (.int .i64 (swpI l i t))) ∧ Hid (∀ t, t < n → wr.frozen? ⟨g, t, none⟩ = false) ∧ Below g w wr ∧ wr.heap.size = w.heap.size) (fun a b _ => (intOf b - intOf a + 1).toNat)
  case atStart =>
    refine ⟨0, by omega, rfl, by simp, ?_, HF, Below.refl _ _, rfl⟩
    show ∀ t, t < n → _
    intro t ht
    rw [HC.out t ht]
    have : swpI l 0 t = l.getD t 0 := by unfold swpI; rw [if_neg (by have := HN.out; omega)]
    rw [this]
  case round =>
    obtain ⟨i, hi, rfl, rfl, HCR, HFR, hb, hsz⟩ := hrel
    by_cases hlt : (i : Int) < (n : Int) - 1 - (i : Int)
    · obtain ⟨j, hj⟩ : ∃ j, n = i + j + 1 := ⟨n - i - 1, by omega⟩
      have hidx : (n : Int) - 1 - (i : Int) = (j : Int) := by omega
      rw [hidx] at hlt ⊢
      have hij : i < j := by omega
      have hc1 := HCR.out i (by omega)
      have hc2 := HCR.out j (by omega)
      have hf1 := HFR.out i (by omega)
      have hf2 := HFR.out j (by omega)
      have e1 : swpI l i i = l.getD i 0 := by unfold swpI; rw [if_neg (by have := HN.out; omega)]
      have e2 : swpI l i j = l.getD j 0 := by unfold swpI; rw [if_neg (by have := HN.out; omega)]
      rw [e1] at hc1
      rw [e2] at hc2
      generalize hx : l.getD i 0 = x at hc1
      generalize hy : l.getD j 0 = y at hc2
      have HX := Lib.hid hx
      have HY := Lib.hid hy
      have HJ := Lib.hid hj
      have b1 : (0 : Int) ≤ (i : Int) := by omega
      have b2 : (i : Int) < (n : Int) := by omega
      have b3 : (0 : Int) ≤ (j : Int) := by omega
      have b4 : (j : Int) < (n : Int) := by omega
      have b5 : ¬ i = j := by omega
      have b6 : ¬ j = i := by omega
      have HS := Lib.hid hsz
      have HB := Lib.hid hb
      clear hx hy e1 e2 hj hidx hsz hb
      have HCN : Hid (∀ t, t < n → (((wr.setCell ⟨g, i, none⟩ (.int .i64 y)).setCell ⟨g, j, none⟩ (.int .i64 x)).drew).cell? ⟨g, t, none⟩ = some (.int .i64 (swpI l (i + 1) t))) := by
        show ∀ t, t < n → _
        intro t ht
        rw [cell_twoI wr g i j t _ _ _ _ _ b5 hc1 hc2 (HCR.out t ht), swpI_step l n i j HN.out HJ.out hij t ht, HX.out, HY.out]
        by_cases h1 : t = i
        · rw [if_pos h1, if_pos h1]
        · rw [if_neg h1, if_neg h1]
          by_cases h2 : t = j
          · rw [if_pos h2, if_pos h2]
          · rw [if_neg h2, if_neg h2]
      have HFN : Hid (∀ t, t < n → (((wr.setCell ⟨g, i, none⟩ (.int .i64 y)).setCell ⟨g, j, none⟩ (.int .i64 x)).drew).frozen? ⟨g, t, none⟩ = false) := by
        show ∀ t, t < n → _
        intro t ht
        show ((wr.setCell ⟨g, i, none⟩ (.int .i64 y)).setCell ⟨g, j, none⟩ (.int .i64 x)).frozen? ⟨g, t, none⟩ = false
        rw [World.frozen?_setCell, World.frozen?_setCell]
        exact HFR.out t ht
      go_wp2_with fail
      go_region
      all_goals
        go_wp2_with fail
        go_roundw
        case rel => exact ⟨i + 1, by have := HJ.out; omega, by go_num, congrArg (Value.int .i64) (by have := HJ.out; omega), HCN, HFN, ((HB.out.setCell (Nat.le_refl _) _).setCell (Nat.le_refl _) _).drew, by have := HS.out; simpa [World.setCell, World.drew] using this⟩
        case measure => have := HJ.out; simp [intOf]; omega
    · have hfin : Hid (RevI l g wr) := by
        show RevI l g wr
        intro t ht
        rw [HN.out] at ht
        rw [HCR.out t ht, swpI_end l n i HN.out hi (by omega) t ht]
      have HS := Lib.hid hsz
      have HB := Lib.hid hb
      clear hsz hb
      go_wp2_with fail
      go_end0
      exact ⟨rfl, hfin.out, HB.out, HS.out⟩

end Go.Proofs.Ytddlpbpcdjddpaa
