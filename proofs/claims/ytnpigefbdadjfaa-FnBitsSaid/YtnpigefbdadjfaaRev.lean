/- Contracts of l01Reverse, slices.Reverse over bytes and both ReverseBits, and the walk of their law. -/
import Derived.Test.YtnpigefbdadjfaaBits
import Derived.Test.YtnpigefbdadjfaaOwn
import Derived.Test.YtnpigefbdadjfaaCvb
import Derived.BigRegion
import Derived.RegionTactic
namespace Go.Proofs.Ytnpigefbdadjfaa
open Go Go.RowKit
set_option linter.unusedVariables false

/-- The last k bytes in the opposite order. -/
theorem add_plainR (b o i : Nat) : (⟨b, o, none⟩ : Addr).add i = ⟨b, o + i, none⟩ := by unfold Addr.add; split <;> simp_all
def revK (l : List UInt8) (k : Nat) : List UInt8 := (List.range k).map fun j => l.getD (l.length - 1 - j) 0
theorem revK_succ (l : List UInt8) (k : Nat) : revK l (k + 1) = revK l k ++ [l.getD (l.length - 1 - k) 0] := by simp [revK, List.range_succ]
theorem revK_length (l : List UInt8) (k : Nat) : (revK l k).length = k := by simp [revK]
theorem getD_atR (s : ByteArray) (j : Nat) (h : j < s.size) : s.data.toList.getD j 0 = s[j] := by
  rw [List.getD_eq_getElem?_getD, List.getElem?_eq_getElem (by simpa using h)]; rfl

/-- A block begins with the bytes in the opposite order. -/
def RevOf (l : List UInt8) (g : Nat) (w : World) : Prop := ∀ t, t < l.length → w.cell? ⟨g, t, none⟩ = some (.int .u8 ((l.getD (l.length - 1 - t) 0).toNat : Int))
/-- The row with i swaps done from both ends. -/
def swp (l : List UInt8) (i t : Nat) : UInt8 := if t < i ∨ l.length ≤ t + i then l.getD (l.length - 1 - t) 0 else l.getD t 0

theorem swp_step (l : List UInt8) (n i j : Nat) (hn : l.length = n) (hj : n = i + j + 1) (hij : i < j) (t : Nat) (ht : t < n) :
    swp l (i + 1) t = if t = i then l.getD j 0 else if t = j then l.getD i 0 else swp l i t := by
  unfold swp
  by_cases h1 : t = i
  · subst h1
    rw [if_pos (by omega), if_pos rfl]
    congr 1; omega
  · rw [if_neg h1]
    by_cases h2 : t = j
    · subst h2
      rw [if_pos (by omega), if_pos rfl]
      congr 1; omega
    · rw [if_neg h2]
      by_cases h3 : t < i ∨ l.length ≤ t + i
      · rw [if_pos h3, if_pos (by omega)]
      · rw [if_neg h3, if_neg (by omega)]
theorem swp_end (l : List UInt8) (n i : Nat) (hn : l.length = n) (h1 : 2 * i ≤ n) (h2 : n ≤ 2 * i + 1) (t : Nat) (ht : t < n) : swp l i t = l.getD (l.length - 1 - t) 0 := by
  unfold swp
  by_cases h : t < i ∨ l.length ≤ t + i
  · rw [if_pos h]
  · rw [if_neg h]
    congr 1; omega
theorem cell_two (w : World) (g i j t : Nat) (a b x y z : Value) (hij : ¬ i = j) (hi : w.cell? ⟨g, i, none⟩ = some a) (hj : w.cell? ⟨g, j, none⟩ = some b) (hz : w.cell? ⟨g, t, none⟩ = some z) :
    (((w.setCell ⟨g, i, none⟩ x).setCell ⟨g, j, none⟩ y).drew).cell? ⟨g, t, none⟩ = some (if t = i then x else if t = j then y else z) := by
  show ((w.setCell ⟨g, i, none⟩ x).setCell ⟨g, j, none⟩ y).cell? ⟨g, t, none⟩ = _
  by_cases h2 : t = j
  · subst h2
    rw [if_neg (by omega), if_pos rfl]
    refine World.cell?_setCell_same _ _ _ (u := b) ?_
    rw [World.cell?_setCell_other _ _ _ _ (by intro e; injection e with _ e _; exact hij e)]
    exact hj
  · rw [World.cell?_setCell_other _ _ _ _ (by intro e; injection e with _ e _; exact h2 e.symm)]
    by_cases h1 : t = i
    · subst h1
      rw [if_pos rfl]
      exact World.cell?_setCell_same _ _ _ (u := a) hi
    · rw [if_neg h1, if_neg h2, World.cell?_setCell_other _ _ _ _ (by intro e; injection e with _ e _; exact h1 e.symm)]
      exact hz

set_option maxRecDepth 100000 in
theorem reverse_any (w : World) (g cap : Nat) (l : List UInt8) (hl : l.length ≤ 400)
    (hc : ∀ t, t < l.length → w.cell? ⟨g, t, none⟩ = some (.int .u8 ((l.getD t 0).toNat : Int))) (hf : ∀ t, t < l.length → w.frozen? ⟨g, t, none⟩ = false) :
    Calls Try.prog 45 #[.slice (some ⟨g, 0, none⟩) l.length cap] w fun e w' => e = .returned (.tuple #[]) ∧ RevOf l g w' ∧ Below g w w' ∧ w'.heap.size = w.heap.size := by
  generalize hn : l.length = n at hl
  rw [hn] at hc hf
  have HN := Lib.hid hn
  have HC := Lib.hid hc
  have HF := Lib.hid hf
  clear hn hc hf
  go_enter Try.func45, Try.ntmps45
  go_wp2
  go_loopw [2, 3] (fun a b wr => ∃ i : Nat, 2 * i ≤ n ∧ a = .int .i64 i ∧ b = .int .i64 ((n : Int) - 1 - i) ∧ Hid (∀ t, t < n → wr.cell? ⟨g, t, none⟩ = some (.int .u8 ((swp l i t).toNat : Int))) ∧ Hid (∀ t, t < n → wr.frozen? ⟨g, t, none⟩ = false) ∧ Below g w wr ∧ wr.heap.size = w.heap.size) (fun a b _ => (intOf b - intOf a + 1).toNat)
  case atStart =>
    refine ⟨0, by omega, rfl, by simp, ?_, HF, Below.refl _ _, rfl⟩
    show ∀ t, t < n → _
    intro t ht
    rw [HC.out t ht]
    have : swp l 0 t = l.getD t 0 := by unfold swp; rw [if_neg (by have := HN.out; omega)]
    rw [this]
  case round =>
    obtain ⟨i, hi, rfl, rfl, HCR, HFR, hb, hsz⟩ := hrel
    by_cases hlt : (i : Int) < (n : Int) - 1 - (i : Int)
    · obtain ⟨j, hj⟩ : ∃ j, n = i + j + 1 := ⟨n - i - 1, by omega⟩
      have hidx : (n : Int) - 1 - (i : Int) = (j : Int) := by omega
      rw [hidx] at hlt ⊢
      have hij : i < j := by omega
      have hc1 := HCR.out i (by omega)
      have hc2 := HCR.out j (by omega)
      have hf1 := HFR.out i (by omega)
      have hf2 := HFR.out j (by omega)
      have e1 : swp l i i = l.getD i 0 := by unfold swp; rw [if_neg (by have := HN.out; omega)]
      have e2 : swp l i j = l.getD j 0 := by unfold swp; rw [if_neg (by have := HN.out; omega)]
      rw [e1] at hc1
      rw [e2] at hc2
      generalize hx : l.getD i 0 = x at hc1
      generalize hy : l.getD j 0 = y at hc2
      have HX := Lib.hid hx
      have HY := Lib.hid hy
      have HJ := Lib.hid hj
      have b1 : (0 : Int) ≤ (i : Int) := by omega
      have b2 : (i : Int) < (n : Int) := by omega
      have b3 : (0 : Int) ≤ (j : Int) := by omega
      have b4 : (j : Int) < (n : Int) := by omega
      have b5 : ¬ i = j := by omega
      have b6 : ¬ j = i := by omega
      have HS := Lib.hid hsz
      have HB := Lib.hid hb
      clear hx hy e1 e2 hj hidx hsz hb
      have HCN : Hid (∀ t, t < n → (((wr.setCell ⟨g, i, none⟩ (.int .u8 (y.toNat : Int))).setCell ⟨g, j, none⟩ (.int .u8 (x.toNat : Int))).drew).cell? ⟨g, t, none⟩ = some (.int .u8 ((swp l (i + 1) t).toNat : Int))) := by
        show ∀ t, t < n → _
        intro t ht
        rw [cell_two wr g i j t _ _ _ _ _ b5 hc1 hc2 (HCR.out t ht), swp_step l n i j HN.out HJ.out hij t ht, HX.out, HY.out]
        by_cases h1 : t = i
        · rw [if_pos h1, if_pos h1]
        · rw [if_neg h1, if_neg h1]
          by_cases h2 : t = j
          · rw [if_pos h2, if_pos h2]
          · rw [if_neg h2, if_neg h2]
      have HFN : Hid (∀ t, t < n → (((wr.setCell ⟨g, i, none⟩ (.int .u8 (y.toNat : Int))).setCell ⟨g, j, none⟩ (.int .u8 (x.toNat : Int))).drew).frozen? ⟨g, t, none⟩ = false) := by
        show ∀ t, t < n → _
        intro t ht
        show ((wr.setCell ⟨g, i, none⟩ (.int .u8 (y.toNat : Int))).setCell ⟨g, j, none⟩ (.int .u8 (x.toNat : Int))).frozen? ⟨g, t, none⟩ = false
        rw [World.frozen?_setCell, World.frozen?_setCell]
        exact HFR.out t ht
      go_wp2_with fail
      go_region
      all_goals
        go_wp2_with fail
        go_roundw
        case rel => exact ⟨i + 1, by have := HJ.out; omega, by go_num, congrArg (Value.int .i64) (by have := HJ.out; omega), HCN, HFN, ((HB.out.setCell (Nat.le_refl _) _).setCell (Nat.le_refl _) _).drew, by have := HS.out; simpa [World.setCell, World.drew] using this⟩
        case measure => have := HJ.out; simp [intOf]; omega
    · have hfin : Hid (RevOf l g wr) := by
        show RevOf l g wr
        intro t ht
        rw [HN.out] at ht
        rw [HCR.out t ht, swp_end l n i HN.out hi (by omega) t ht]
      have HS := Lib.hid hsz
      have HB := Lib.hid hb
      clear hsz hb
      go_wp2_with fail
      go_end0
      exact ⟨rfl, hfin.out, HB.out, HS.out⟩

theorem revK_at (l : List UInt8) (n t : Nat) (h : t < n) : (revK l n)[t]'(by rw [revK_length]; exact h) = l.getD (l.length - 1 - t) 0 := by simp [revK]

/-- What ReverseBits answers. -/
def revA (s : ByteArray) : ByteArray := if isB s.data.toList = true then ⟨(revK s.data.toList s.size).toArray⟩ else ⟨#[]⟩

theorem rev_impl (s : ByteArray) (w : World) (hs : s.size ≤ maxLen) :
    Calls Try.prog 13 #[.string s] w fun e w' => e = .returned (.tuple #[.string (revA s), .bool (isB s.data.toList)]) ∧ Below w.heap.size w w' := by
  have HS := Lib.hid hs
  clear hs
  cases hB : isB s.data.toList
  · have HR : Hid (revA s = ⟨#[]⟩) := by show _ = _; unfold revA; rw [if_neg (by rw [hB]; decide)]
    go_enter Try.func13, Try.ntmps13
    go_wp2_with fail
    refine (isBits_any _ _ HS.out).mono ?_; rintro e w' ⟨rfl, hb⟩
    go_wp2_with fail
    go_ret2
    exact ⟨ret_sb (by rw [HR.out]) rfl, hb⟩
  · have HR : Hid (revA s = ⟨(revK s.data.toList s.size).toArray⟩) := by show _ = _; unfold revA; rw [if_pos hB]
    have HL : Hid (s.data.toList.length ≤ 400) := by
      show _ ≤ _
      unfold isB at hB
      exact of_decide_eq_true (Bool.and_eq_true_iff.1 hB).1
    have HZ : Hid (s.data.toList.length = s.size) := by show _ = _; simp
    have k1 := fun W => convB W s
    go_enter Try.func13, Try.ntmps13
    go_wp2_with fail
    refine (isBits_any _ _ HS.out).mono ?_; rintro e w1 ⟨rfl, hb1⟩
    go_wp2_with fail
    clear k1
    have hc : ∀ t, t < s.data.toList.length → ((w1.alloc (.cells (rowB w1 s) 5 (markB w1 s))).drew).cell? ⟨w1.heap.size, t, none⟩ = some (.int .u8 ((s.data.toList.getD t 0).toNat : Int)) := by
      intro t ht
      show (w1.alloc (.cells (rowB w1 s) 5 (markB w1 s))).cell? ⟨w1.heap.size, t, none⟩ = _
      rw [World.cell?_alloc_mark, rowB_at w1 s t (by rw [HZ.out] at ht; exact ht), getD_atR s t (by rw [HZ.out] at ht; exact ht)]
    have hf : ∀ t, t < s.data.toList.length → ((w1.alloc (.cells (rowB w1 s) 5 (markB w1 s))).drew).frozen? ⟨w1.heap.size, t, none⟩ = false := by
      intro t ht
      show (w1.alloc (.cells (rowB w1 s) 5 (markB w1 s))).frozen? ⟨w1.heap.size, t, none⟩ = _
      unfold markB
      rw [World.frozen?_alloc_mark]
      have h2 : s.size ≤ (rowB w1 s).size := by unfold rowB bytesRow; simp
      have h3 : t < (rowB w1 s).size := by rw [HZ.out] at ht; omega
      simp; omega
    have hrev := reverse_any ((w1.alloc (.cells (rowB w1 s) 5 (markB w1 s))).drew) w1.heap.size (capB w1 s) s.data.toList HL.out hc hf
    rw [HZ.out] at hrev
    have HREV : Hid (Calls Try.prog 45 _ _ _) := hrev
    clear hc hf hrev
    refine HREV.out.mono ?_; rintro e w3 ⟨rfl, hrv, hb3, hsz3⟩
    have hcv : (convert 22 9 (.slice (some ⟨w1.heap.size, 0, none⟩) s.size (capB w1 s))).run Try.prog w3 = .ok (.string ⟨(revK s.data.toList s.size).toArray⟩) w3 := by
      have h := run_convert_bytes_back (P := Try.prog) w3 22 9 5 ⟨w1.heap.size, 0, none⟩ (capB w1 s) (revK s.data.toList s.size) Try.underlying22 Try.underlying5 Try.underlying9 (by
        intro t ht
        rw [revK_length] at ht
        rw [add_plainR, Nat.zero_add, hrv t (by rw [HZ.out]; exact ht), revK_at s.data.toList s.size t ht])
      rw [revK_length] at h
      exact h
    have HB : Hid (Below w.heap.size w w3) := by
      show Below _ _ _
      refine hb1.trans (Below.trans (b := (w1.alloc (.cells (rowB w1 s) 5 (markB w1 s))).drew) ?_ (hb3.mono hb1.size))
      exact ((Below.refl _ _).alloc hb1.size _).drew
    clear hb1 hb3 hrv hsz3 HREV
    go_wp2_with fail
    go_ret2
    exact ⟨ret_sb (by rw [HR.out]) rfl, HB.out⟩

end Go.Proofs.Ytnpigefbdadjfaa
