/- What the graphs of runs and of sums allow: plain facts. -/
import Derived.Test.YtijmfienaoeboaaGo
import Derived.Test.YtijmfienaoeboaaGb
namespace Go.Proofs.Ytijmfienaoeboaa
open Go Go.RowKit
set_option linter.unusedVariables false

theorem rows_get (e0 e1 : Nat → Int) (n x : Nat) (h : x < n) : (rowsOf e0 e1 n).getD x [] = [e0 x, e1 x] := by
  have hl : x < (rowsOf e0 e1 n).length := by rw [rowsOf_len]; exact h
  rw [List.getD_eq_getElem?_getD, List.getElem?_eq_getElem hl, rowsOf_at]; rfl
theorem rows_isG (e0 e1 : Nat → Int) (n : Nat) (h1 : 1 ≤ n) (h2 : n ≤ 12) (h : ∀ x, x < n → (-1 ≤ e0 x ∧ e0 x ≤ (n : Int) - 1) ∧ (-1 ≤ e1 x ∧ e1 x ≤ (n : Int) - 1) ∧ ¬ (e0 x < 0 ∧ e1 x < 0)) : isG (rowsOf e0 e1 n) = true := by
  refine isG_all _ (by rw [rowsOf_len]; exact ⟨h1, h2⟩) ?_
  rw [rowsOf_len, List.all_eq_true]
  intro r hr
  obtain ⟨x, hx, rfl⟩ := List.mem_map.1 hr
  rw [List.mem_range] at hx
  unfold okRow
  exact decide_eq_true ⟨rfl, h x hx⟩

/-- Runs: how many bits 0 since the last bit 1, or -1 behind bits that are not allowed. -/
def rnS (a b : Int) (x : Int) (c : UInt8) : Int := if c = 48 then (if x < b then x + 1 else -1) else (if x ≥ a then 0 else -1)
theorem rn_step (a b : Int) (hok : rgOk a b = true) (x : Int) (h0 : 0 ≤ x) (h1 : x ≤ b) (c : UInt8) (hc : c = 48 ∨ c = 49) : stepG (rgG a b) x c = rnS a b x c := by
  obtain ⟨⟨b0, b1⟩, a0, a1⟩ := of_decide_eq_true hok
  unfold stepG edge rgG
  rw [if_neg (by omega), if_pos hok, rows_get _ _ _ _ (by omega)]
  unfold rnS
  rcases hc with rfl | rfl
  · rw [if_pos rfl]
    show rgE0 b.toNat x.toNat = _
    unfold rgE0
    by_cases e : x < b
    · rw [if_pos (by omega), if_pos e]; omega
    · rw [if_neg (by omega), if_neg e]
  · rw [if_neg (by decide)]
    show rgE1 a x.toNat = _
    unfold rgE1
    by_cases e : x ≥ a
    · rw [if_pos (by omega), if_pos e]
    · rw [if_neg (by omega), if_neg e]
/-- What the law finds: the run, and whether all is fine. -/
def fr (a b : Int) : List UInt8 → Int × Bool → Int × Bool
  | [], s => s
  | c :: l, (r, f) => fr a b l (if c = 48 then (r + 1, f && decide (r + 1 ≤ b)) else (0, f && decide (a ≤ r)))
theorem fr_no (a b : Int) : ∀ (l : List UInt8) (r : Int), (fr a b l (r, false)).2 = false
  | [], r => rfl
  | c :: l, r => by
    rw [fr]
    by_cases e : c = 48
    · rw [if_pos e, Bool.false_and]; exact fr_no a b l _
    · rw [if_neg e, Bool.false_and]; exact fr_no a b l _
theorem fr_run (a b : Int) (hok : rgOk a b = true) : ∀ (l : List UInt8) (x : Int), 0 ≤ x → x ≤ b → inR 48 49 l = true → decide (0 ≤ runG (rgG a b) x l) = (fr a b l (x, true)).2
  | [], x, h0, h1, hl => by
    show decide (0 ≤ x) = true
    exact decide_eq_true h0
  | c :: l, x, h0, h1, hl => by
    obtain ⟨⟨b0, b1⟩, a0, a1⟩ := of_decide_eq_true hok
    rw [inR_cons] at hl
    obtain ⟨hc, hl⟩ := Bool.and_eq_true_iff.1 hl
    have hc := of_decide_eq_true hc
    have hc2 : c = 48 ∨ c = 49 := by
      rcases (show c.toNat = 48 ∨ c.toNat = 49 from by omega) with h | h
      · exact .inl (UInt8.toNat_inj.1 (by rw [h]; rfl))
      · exact .inr (UInt8.toNat_inj.1 (by rw [h]; rfl))
    have e : runG (rgG a b) x (c :: l) = runG (rgG a b) (rnS a b x c) l := by
      rw [← rn_step a b hok x h0 h1 c hc2]; rfl
    rw [e, fr]
    unfold rnS
    rcases hc2 with rfl | rfl
    · rw [if_pos rfl, if_pos rfl]
      by_cases hx : x < b
      · rw [if_pos hx, decide_eq_true (show x + 1 ≤ b by omega), Bool.true_and]
        exact fr_run a b hok l _ (by omega) (by omega) hl
      · rw [if_neg hx, decide_eq_false (show ¬ x + 1 ≤ b by omega), Bool.true_and, fr_no, runG_neg _ _ _ (by decide)]; rfl
    · rw [if_neg (show ¬ ((49 : UInt8) = 48) by decide), if_neg (show ¬ ((49 : UInt8) = 48) by decide)]
      by_cases hx : x ≥ a
      · rw [if_pos hx, decide_eq_true (show a ≤ x by omega), Bool.true_and]
        exact fr_run a b hok l _ (by omega) (by omega) hl
      · rw [if_neg hx, decide_eq_false (show ¬ a ≤ x by omega), Bool.true_and, fr_no, runG_neg _ _ _ (by decide)]; rfl
theorem fr_snoc (a b : Int) : ∀ (l : List UInt8) (c : UInt8) (s : Int × Bool), fr a b (l ++ [c]) s = (if c = 48 then ((fr a b l s).1 + 1, (fr a b l s).2 && decide ((fr a b l s).1 + 1 ≤ b)) else (0, (fr a b l s).2 && decide (a ≤ (fr a b l s).1)))
  | [], c, (r, f) => rfl
  | d :: l, c, (r, f) => by rw [List.cons_append, fr, fr, fr_snoc a b l c]
theorem fr_bd (a b : Int) : ∀ (l : List UInt8) (s : Int × Bool), 0 ≤ s.1 → 0 ≤ (fr a b l s).1 ∧ (fr a b l s).1 ≤ s.1 + l.length
  | [], s, h => by simp [fr, h]
  | c :: l, (r, f), h => by
    rw [fr]
    by_cases e : c = 48
    · rw [if_pos e]
      have := fr_bd a b l (r + 1, f && decide (r + 1 ≤ b)) (by show 0 ≤ r + 1; have : 0 ≤ r := h; omega)
      simp only [List.length_cons] at *
      omega
    · rw [if_neg e]
      have := fr_bd a b l (0, f && decide (a ≤ r)) (by show (0 : Int) ≤ 0; omega)
      have h' : 0 ≤ r := h
      simp only [List.length_cons] at *
      omega

/-- Sums. -/
def snS (b : Int) (x : Int) (c : UInt8) : Int := if c = 49 then (if x < b then x + 1 else -1) else x - 1
theorem sn_step (b : Int) (hok : sgOk b = true) (x : Int) (h0 : 0 ≤ x) (h1 : x ≤ b) (c : UInt8) (hc : c = 48 ∨ c = 49) : stepG (sgG b) x c = snS b x c := by
  obtain ⟨b0, b1⟩ := of_decide_eq_true hok
  unfold stepG edge sgG
  rw [if_neg (by omega), if_pos hok, rows_get _ _ _ _ (by omega)]
  unfold snS
  rcases hc with rfl | rfl
  · rw [if_neg (by decide)]
    show sgE0 x.toNat = _
    unfold sgE0
    omega
  · rw [if_pos rfl]
    show sgE1 b.toNat x.toNat = _
    unfold sgE1
    by_cases e : x < b
    · rw [if_pos (by omega), if_pos e]; omega
    · rw [if_neg (by omega), if_neg e]
def fs (b : Int) : List UInt8 → Int × Bool → Int × Bool
  | [], s => s
  | c :: l, (r, f) => fs b l (if c = 49 then (r + 1, f && (decide (0 ≤ r + 1) && decide (r + 1 ≤ b))) else (r - 1, f && (decide (0 ≤ r - 1) && decide (r - 1 ≤ b))))
theorem fs_no (b : Int) : ∀ (l : List UInt8) (r : Int), (fs b l (r, false)).2 = false
  | [], r => rfl
  | c :: l, r => by
    rw [fs]
    by_cases e : c = 49
    · rw [if_pos e, Bool.false_and]; exact fs_no b l _
    · rw [if_neg e, Bool.false_and]; exact fs_no b l _
theorem fs_run (b : Int) (hok : sgOk b = true) : ∀ (l : List UInt8) (x : Int), 0 ≤ x → x ≤ b → inR 48 49 l = true → decide (0 ≤ runG (sgG b) x l) = (fs b l (x, true)).2
  | [], x, h0, h1, hl => by
    show decide (0 ≤ x) = true
    exact decide_eq_true h0
  | c :: l, x, h0, h1, hl => by
    obtain ⟨b0, b1⟩ := of_decide_eq_true hok
    rw [inR_cons] at hl
    obtain ⟨hc, hl⟩ := Bool.and_eq_true_iff.1 hl
    have hc := of_decide_eq_true hc
    have hc2 : c = 48 ∨ c = 49 := by
      rcases (show c.toNat = 48 ∨ c.toNat = 49 from by omega) with h | h
      · exact .inl (UInt8.toNat_inj.1 (by rw [h]; rfl))
      · exact .inr (UInt8.toNat_inj.1 (by rw [h]; rfl))
    have e : runG (sgG b) x (c :: l) = runG (sgG b) (snS b x c) l := by
      rw [← sn_step b hok x h0 h1 c hc2]; rfl
    rw [e, fs]
    unfold snS
    rcases hc2 with rfl | rfl
    · rw [if_neg (show ¬ ((48 : UInt8) = 49) by decide), if_neg (show ¬ ((48 : UInt8) = 49) by decide)]
      by_cases hx : 0 ≤ x - 1
      · rw [decide_eq_true hx, decide_eq_true (show x - 1 ≤ b by omega), Bool.true_and, Bool.true_and]
        exact fs_run b hok l _ (by omega) (by omega) hl
      · rw [decide_eq_false hx, Bool.false_and, Bool.true_and, fs_no, runG_neg _ _ _ (by omega)]; exact decide_eq_false (by omega)
    · rw [if_pos rfl, if_pos rfl, decide_eq_true (show 0 ≤ x + 1 by omega), Bool.true_and]
      by_cases hx : x < b
      · rw [if_pos hx, decide_eq_true (show x + 1 ≤ b by omega), Bool.true_and]
        exact fs_run b hok l _ (by omega) (by omega) hl
      · rw [if_neg hx, decide_eq_false (show ¬ x + 1 ≤ b by omega), Bool.true_and, fs_no, runG_neg _ _ _ (by decide)]; rfl
theorem fs_snoc (b : Int) : ∀ (l : List UInt8) (c : UInt8) (s : Int × Bool), fs b (l ++ [c]) s = (if c = 49 then ((fs b l s).1 + 1, (fs b l s).2 && (decide (0 ≤ (fs b l s).1 + 1) && decide ((fs b l s).1 + 1 ≤ b))) else ((fs b l s).1 - 1, (fs b l s).2 && (decide (0 ≤ (fs b l s).1 - 1) && decide ((fs b l s).1 - 1 ≤ b))))
  | [], c, (r, f) => rfl
  | d :: l, c, (r, f) => by rw [List.cons_append, fs, fs, fs_snoc b l c]
theorem fs_bd (b : Int) : ∀ (l : List UInt8) (s : Int × Bool), s.1 - l.length ≤ (fs b l s).1 ∧ (fs b l s).1 ≤ s.1 + l.length
  | [], s => by simp [fs]
  | c :: l, (r, f) => by
    rw [fs]
    by_cases e : c = 49
    · rw [if_pos e]
      have := fs_bd b l (r + 1, f && (decide (0 ≤ r + 1) && decide (r + 1 ≤ b)))
      simp only [List.length_cons] at *
      omega
    · rw [if_neg e]
      have := fs_bd b l (r - 1, f && (decide (0 ≤ r - 1) && decide (r - 1 ≤ b)))
      simp only [List.length_cons] at *
      omega

theorem rg_isG (a b : Int) (hok : rgOk a b = true) : isG (rgG a b) = true ∧ (rgG a b).length = b.toNat + 1 := by
  obtain ⟨⟨b0, b1⟩, a0, a1⟩ := of_decide_eq_true hok
  unfold rgG
  rw [if_pos hok]
  refine ⟨rows_isG _ _ _ (by omega) (by omega) ?_, rowsOf_len _ _ _⟩
  intro x hx
  unfold rgE0 rgE1
  by_cases e1 : (x : Int) < ((b.toNat : Nat) : Int)
  · rw [if_pos e1]
    by_cases e2 : (x : Int) ≥ a
    · rw [if_pos e2]; omega
    · rw [if_neg e2]; omega
  · rw [if_neg e1, if_pos (by omega)]; omega
theorem sg_isG (b : Int) (hok : sgOk b = true) : isG (sgG b) = true ∧ (sgG b).length = b.toNat + 1 := by
  obtain ⟨b0, b1⟩ := of_decide_eq_true hok
  unfold sgG
  rw [if_pos hok]
  refine ⟨rows_isG _ _ _ (by omega) (by omega) ?_, rowsOf_len _ _ _⟩
  intro x hx
  unfold sgE0 sgE1
  by_cases e1 : (x : Int) < ((b.toNat : Nat) : Int)
  · rw [if_pos e1]; omega
  · rw [if_neg e1]; omega
/-- What the law asks of both graphs. -/
theorem rg_allowed (a b : Int) (hok : rgOk a b = true) (L : List UInt8) (h : L.length ≤ 12) (hb : inR 48 49 L = true) : sbOk (rgG a b) 0 L = (fr a b L (0, true)).2 := by
  obtain ⟨h1, h2⟩ := rg_isG a b hok
  have h3 : isB L = true := by unfold isB; rw [hb, decide_eq_true (show L.length ≤ 400 by omega)]; rfl
  have h4 : okSt (rgG a b) 0 = true := by unfold okSt; rw [h1, h2]; simp; omega
  unfold sbOk
  rw [h4, h3]
  obtain ⟨⟨b0, b1⟩, a0, a1⟩ := of_decide_eq_true hok
  exact fr_run a b hok L 0 (by omega) (by omega) hb
theorem sg_allowed (b x : Int) (hok : sgOk b = true) (hx : 0 ≤ x ∧ x ≤ b) (L : List UInt8) (h : L.length ≤ 12) (hb : inR 48 49 L = true) : sbOk (sgG b) x L = (fs b L (x, true)).2 := by
  obtain ⟨h1, h2⟩ := sg_isG b hok
  have h3 : isB L = true := by unfold isB; rw [hb, decide_eq_true (show L.length ≤ 400 by omega)]; rfl
  have h4 : okSt (sgG b) x = true := by unfold okSt; rw [h1, h2]; simp; omega
  unfold sbOk
  rw [h4, h3]
  exact fs_run b hok L x hx.1 hx.2 hb
end Go.Proofs.Ytijmfienaoeboaa
