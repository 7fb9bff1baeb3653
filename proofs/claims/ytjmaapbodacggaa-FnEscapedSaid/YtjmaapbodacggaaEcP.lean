/- Plain facts on what comes back: escaped bytes, bytes without 0. -/
import Derived.Test.YtjmaapbodacggaaEsP
import Derived.Test.YtjmaapbodacggaaCoP
namespace Go.Proofs.Ytjmaapbodacggaa
set_option linter.unusedVariables false
open Go Go.RowKit

theorem ueF_esF (sp : List Int) (h125 : sp.contains 125 = true) : ∀ l : List Int, (∀ b ∈ l, 0 ≤ b ∧ b ≤ 255) → ueF (esF sp l) = l
  | [], _ => rfl
  | b :: l, hb => by
    have ih := ueF_esF sp h125 l (fun x hx => hb x (List.mem_cons_of_mem _ hx))
    have h0 := hb b List.mem_cons_self
    rw [show b :: l = [b] ++ l from rfl, esF_append, esF_one, esc]
    cases hc : sp.contains b
    · rw [if_neg (by simp), List.singleton_append, ueF_plain (fun e => by rw [e, h125] at hc; cases hc), ih]; rfl
    · rw [if_pos rfl]
      show ueF (125 :: x32 b :: esF sp l) = _
      rw [ueF_esc, (x32_byte h0).2, ih]; rfl
theorem esc_mem {sp : List Int} {b x : Int} (h : x ∈ esc sp b) : (sp.contains b = true ∧ (x = 125 ∨ x = x32 b)) ∨ (sp.contains b = false ∧ x = b) := by
  unfold esc at h
  cases hc : sp.contains b
  · rw [hc] at h; simp at h; exact .inr ⟨rfl, h⟩
  · rw [hc] at h; simp at h; exact .inl ⟨rfl, h⟩
theorem esF_mem {sp l : List Int} {x : Int} (h : x ∈ esF sp l) : ∃ b ∈ l, x ∈ esc sp b := by
  unfold esF at h
  obtain ⟨b, hb, hx⟩ := List.mem_flatMap.1 h
  exact ⟨b, hb, hx⟩
theorem esF_bytes {sp l : List Int} (hb : ∀ b ∈ l, 0 ≤ b ∧ b ≤ 255) : ∀ x ∈ esF sp l, 0 ≤ x ∧ x ≤ 255 := by
  intro x hx
  obtain ⟨b, hbl, hx⟩ := esF_mem hx
  rcases esc_mem hx with ⟨_, rfl | rfl⟩ | ⟨_, rfl⟩
  · omega
  · exact (x32_byte (hb b hbl)).1
  · exact hb _ hbl
theorem esF_clean {sp l : List Int} (hn : noX sp = true) : ∀ x ∈ esF sp l, x ≠ 125 → sp.contains x = false := by
  intro x hx h
  obtain ⟨b, hbl, hx⟩ := esF_mem hx
  rcases esc_mem hx with ⟨hc, rfl | rfl⟩ | ⟨hc, rfl⟩
  · exact absurd rfl h
  · have := List.all_eq_true.1 hn b (by simpa using hc)
    simpa using this
  · exact hc
theorem coF_ne (f : Nat) (l : List Int) (h : 0 < f) : coF f l ≠ [] := by
  obtain ⟨f, rfl⟩ : ∃ g, f = g + 1 := ⟨f - 1, by omega⟩
  rw [coF]; simp
theorem take_zero_drop (l : List Int) (n : Nat) (h : n < l.length) (h0 : l[n] = 0) : l.take n ++ ([0] ++ l.drop (n + 1)) = l := by
  conv => rhs; rw [← List.take_append_drop n l]
  rw [List.drop_eq_getElem_cons h, h0]; rfl
theorem uc_co : ∀ (f : Nat) (l : List Int) (g : Nat), l.length < f → (coF f l).length < g → ucF g (coF f l) = some l
  | 0, l, g, h, _ => by omega
  | f + 1, l, g, h, hg => by
    obtain ⟨g, rfl⟩ : ∃ k, g = k + 1 := ⟨g - 1, by omega⟩
    have hle := lead_le l
    have hmo := lead_most l
    have hns : lead l < 254 → lead l < l.length → ∀ h : lead l < l.length, l[lead l] = 0 := fun h1 h2 h3 => by
      have e : lead l = nzs l := by unfold lead at *; omega
      have := nzs_at l (by omega)
      simp only [e]; exact this
    generalize hn : lead l = n at *
    rw [coF_succ f l n hn] at hg ⊢
    obtain ⟨R, hR⟩ : ∃ R, R = (if n = 254 then (if l.length = 254 then [] else coF f (l.drop 254)) else if l.length = n then [] else coF f (l.drop (n + 1))) := ⟨_, rfl⟩
    rw [← hR] at hg ⊢
    have htl : (l.take n).length = n := by rw [List.length_take]; omega
    simp only [List.cons_append, List.nil_append, List.length_cons, List.length_append] at hg
    rw [show [((n + 1 : Nat) : Int)] ++ l.take n ++ R = ((n + 1 : Nat) : Int) :: (l.take n ++ R) from by simp]
    rw [ucF, if_neg (by rw [List.length_append]; omega)]
    have e1 : (((n + 1 : Nat) : Int) - 1).toNat = n := by omega
    rw [e1, List.drop_left' htl, List.take_left' htl]
    by_cases h254 : n = 254
    · subst h254
      rw [if_pos rfl] at hR
      by_cases hl : l.length = 254
      · rw [if_pos hl] at hR
        subst hR
        obtain ⟨g, rfl⟩ : ∃ k, g = k + 1 := ⟨g - 1, by omega⟩
        rw [ucF]
        simp [List.take_of_length_le (show l.length ≤ 254 by omega)]
      · rw [if_neg hl] at hR
        rw [hR, uc_co f (l.drop 254) g (by rw [List.length_drop]; omega) (by rw [← hR]; omega)]
        simp only [Option.map_some]
        rw [if_neg (by omega), List.nil_append, List.take_append_drop]
    · rw [if_neg h254] at hR
      by_cases hl : l.length = n
      · rw [if_pos hl] at hR
        subst hR
        obtain ⟨g, rfl⟩ : ∃ k, g = k + 1 := ⟨g - 1, by omega⟩
        rw [ucF]
        simp [List.take_of_length_le (show l.length ≤ n by omega)]
      · rw [if_neg hl] at hR
        have hne : R ≠ [] := by rw [hR]; exact coF_ne _ _ (by omega)
        rw [if_pos ⟨by omega, hne⟩]
        rw [hR, uc_co f (l.drop (n + 1)) g (by rw [List.length_drop]; omega) (by rw [← hR]; omega)]
        simp only [Option.map_some]
        rw [take_zero_drop l n (by omega) (hns (by omega) (by omega) (by omega))]
theorem unc_cob (l : List Int) : unc (cob l) = some l := uc_co _ _ _ (Nat.lt_succ_self _) (Nat.lt_succ_self _)
theorem coF_size : ∀ (f : Nat) (l : List Int), l.length < f → l.length + 1 ≤ (coF f l).length ∧ (coF f l).length ≤ l.length + 1 + l.length / 254
  | 0, l, h => by omega
  | f + 1, l, h => by
    have hle := lead_le l
    have hmo := lead_most l
    generalize hn : lead l = n at *
    rw [coF_succ f l n hn]
    simp only [List.length_append, List.length_cons, List.length_nil, List.length_take]
    by_cases h254 : n = 254
    · rw [if_pos h254]
      by_cases hl : l.length = 254
      · rw [if_pos hl]; simp; omega
      · rw [if_neg hl]
        have := coF_size f (l.drop 254) (by rw [List.length_drop]; omega)
        rw [List.length_drop] at this
        omega
    · rw [if_neg h254]
      by_cases hl : l.length = n
      · rw [if_pos hl]; simp; omega
      · rw [if_neg hl]
        have := coF_size f (l.drop (n + 1)) (by rw [List.length_drop]; omega)
        rw [List.length_drop] at this
        omega
theorem cob_size (l : List Int) : l.length + 1 ≤ (cob l).length ∧ (cob l).length ≤ l.length + 1 + l.length / 254 := coF_size _ _ (Nat.lt_succ_self _)
theorem coF_bytes : ∀ (f : Nat) (l : List Int), (∀ b ∈ l, 0 ≤ b ∧ b ≤ 255) → ∀ x ∈ coF f l, 0 ≤ x ∧ x ≤ 255
  | 0, l, _, x, h => by simp [coF] at h
  | f + 1, l, hb, x, h => by
    have hmo := lead_most l
    rw [coF] at h
    rcases List.mem_cons.1 h with rfl | h
    · omega
    · rcases List.mem_append.1 h with h | h
      · exact hb x (List.mem_of_mem_take h)
      · split at h
        · split at h
          · simp at h
          · exact coF_bytes f _ (fun y hy => hb y (List.mem_of_mem_drop hy)) x h
        · split at h
          · simp at h
          · exact coF_bytes f _ (fun y hy => hb y (List.mem_of_mem_drop hy)) x h
theorem byR_of {l : List Int} (h : ∀ x ∈ l, 0 ≤ x ∧ x ≤ 255) : byR l = true := by
  unfold byR; rw [List.all_eq_true]; exact fun x hx => decide_eq_true (h x hx)
/-- All that FnEscaped asks. -/
theorem escaped_all {sp l : List Int} (hs : spOk sp = true) (hb : ∀ b ∈ l, 0 ≤ b ∧ b ≤ 255) (hl : l.length ≤ 300) :
    (byOk' 300 l = true ∧ byOk' 600 (esF sp l) = true ∧ ueF (esF sp l) = l ∧ ueOk sp (esF sp l) = true) ∧ (byOk' 600 (cob l) = true ∧ ucOk (cob l) = true ∧ unc (cob l) = some l) := by
  obtain ⟨-, h2⟩ := Bool.and_eq_true_iff.1 hs
  obtain ⟨h3, h4⟩ := Bool.and_eq_true_iff.1 h2
  have e1 := ueF_esF sp h3 l hb
  have e2 := esF_len sp l
  have e3 := cob_size l
  refine ⟨⟨?_, ?_, e1, ?_⟩, ?_, ?_, unc_cob l⟩
  · unfold byOk'; rw [decide_eq_true hl, byR_of hb]; rfl
  · unfold byOk'; rw [decide_eq_true (by omega), byR_of (esF_bytes hb)]; rfl
  · unfold ueOk; rw [e1]; simp
  · unfold byOk'; rw [decide_eq_true (by omega), (byR_of (coF_bytes _ _ hb) : byR (cob l) = true)]; rfl
  · unfold ucOk; rw [unc_cob]; simp only; rw [decide_eq_true hl]; simp
end Go.Proofs.Ytjmaapbodacggaa
