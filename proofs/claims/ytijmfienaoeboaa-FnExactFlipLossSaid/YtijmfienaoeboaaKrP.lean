/- Prefix codes and the sum of their shares: behind each beginning of a word of a complete code, both bits lead on: plain facts. -/
import Derived.Test.YtijmfienaoeboaaCdP
import Derived.Test.YtijmfienaoeboaaTrP
import Derived.Lib.Index
namespace Go.Proofs.Ytijmfienaoeboaa
open Go Go.RowKit
set_option linter.unusedVariables false

/-- No word is the beginning of another one. -/
def preB (ws : List Bs) : Bool := ws.all fun x => ws.all fun y => decide (x = y) || !(Lib.occAt y x 0)
theorem occ0 (x y : Bs) : Lib.occAt y x 0 = true ↔ x <+: y := by unfold Lib.occAt; simp [List.isPrefixOf_iff_prefix]
theorem preB_t {ws : List Bs} (h : preB ws = true) {x y : Bs} (hx : x ∈ ws) (hy : y ∈ ws) (hp : x <+: y) : x = y := by
  unfold preB at h
  rw [List.all_eq_true] at h
  have h1 := h x hx
  rw [List.all_eq_true] at h1
  have h2 := h1 y hy
  rcases Bool.or_eq_true_iff.1 h2 with h3 | h3
  · exact of_decide_eq_true h3
  · rw [(occ0 x y).2 hp] at h3; cases h3
theorem preB_mk {ws : List Bs} (h : ∀ x ∈ ws, ∀ y ∈ ws, x <+: y → x = y) : preB ws = true := by
  unfold preB
  rw [List.all_eq_true]
  intro x hx
  rw [List.all_eq_true]
  intro y hy
  cases e : Lib.occAt y x 0
  · simp
  · rw [h x hx y hy ((occ0 x y).1 e)]; simp
theorem preB_no {ws : List Bs} {x y : Bs} (hx : x ∈ ws) (hy : y ∈ ws) (hp : x <+: y) (hne : x ≠ y) : preB ws = false := by
  cases e : preB ws
  · rfl
  · exact absurd (preB_t e hx hy hp) hne

/-- Bits. -/
def bt (w : Bs) : Prop := ∀ c ∈ w, c = 48 ∨ c = 49
/-- The shares of the words that begin with some bits. -/
def kb : List Bs → Bs → Nat
  | [], _ => 0
  | w :: ws, p => (if p <+: w then 2 ^ (12 - w.length) else 0) + kb ws p
/-- The shares of a word itself. -/
def ke : List Bs → Bs → Nat
  | [], _ => 0
  | w :: ws, p => (if w = p then 2 ^ (12 - w.length) else 0) + ke ws p
theorem pre_split {p w : Bs} (hb : bt w) (h : p <+: w) : w = p ∨ p ++ [48] <+: w ∨ p ++ [49] <+: w := by
  obtain ⟨t, rfl⟩ := h
  cases t with
  | nil => left; simp
  | cons c t =>
    right
    rcases hb c (by simp) with rfl | rfl
    · left; exact ⟨t, by simp⟩
    · right; exact ⟨t, by simp⟩
theorem pre_of_snoc {p w : Bs} {c : UInt8} (h : p ++ [c] <+: w) : p <+: w := List.IsPrefix.trans (List.prefix_append _ _) h
theorem snoc_not {p : Bs} {c : UInt8} : ¬ p ++ [c] <+: p := fun h => by have := h.length_le; simp at this; omega
theorem pre_two {p w : Bs} (h0 : p ++ [48] <+: w) (h1 : p ++ [49] <+: w) : False := by
  obtain ⟨a, ha⟩ := h0
  obtain ⟨b, hb⟩ := h1
  rw [← ha] at hb
  simp at hb
theorem kb_split : ∀ (ws : List Bs) (p : Bs), (∀ w ∈ ws, bt w) → kb ws p = ke ws p + kb ws (p ++ [48]) + kb ws (p ++ [49])
  | [], p, h => rfl
  | w :: ws, p, h => by
    have ih := kb_split ws p (fun x hx => h x (by simp [hx]))
    rw [kb, ke, kb, kb, ih]
    by_cases hp : p <+: w
    · rw [if_pos hp]
      rcases pre_split (h w (by simp)) hp with e | e | e
      · subst e
        rw [if_pos rfl, if_neg snoc_not, if_neg snoc_not]; omega
      · rw [if_neg (fun e' => by rw [e'] at e; exact snoc_not e), if_pos e, if_neg (fun e' => pre_two e e')]; omega
      · rw [if_neg (fun e' => by rw [e'] at e; exact snoc_not e), if_neg (fun e' => pre_two e' e), if_pos e]; omega
    · rw [if_neg hp, if_neg (fun e : w = p => hp (e ▸ List.prefix_rfl)), if_neg (fun e => hp (pre_of_snoc e)), if_neg (fun e => hp (pre_of_snoc e))]; omega
theorem ke_no : ∀ (ws : List Bs) (p : Bs), p ∉ ws → ke ws p = 0
  | [], p, h => rfl
  | w :: ws, p, h => by
    rw [ke, if_neg (fun e => h (by simp [e])), ke_no ws p (fun h' => h (by simp [h']))]
theorem ke_yes : ∀ (ws : List Bs) (p : Bs), p ∈ ws → ws.Nodup → ke ws p = 2 ^ (12 - p.length)
  | [], p, h, _ => by simp at h
  | w :: ws, p, h, hn => by
    rw [List.nodup_cons] at hn
    rw [ke]
    by_cases e : w = p
    · subst e
      rw [if_pos rfl, ke_no ws w hn.1]; rfl
    · rw [if_neg e, ke_yes ws p (by rcases List.mem_cons.1 h with h' | h'; exact absurd h'.symm e; exact h') hn.2]; omega
theorem kb_zero : ∀ (ws : List Bs) (p : Bs), (∀ w ∈ ws, ¬ p <+: w) → kb ws p = 0
  | [], p, h => rfl
  | w :: ws, p, h => by
    rw [kb, if_neg (h w (by simp)), kb_zero ws p (fun x hx => h x (by simp [hx]))]
theorem kb_pos : ∀ (ws : List Bs) (p : Bs), 0 < kb ws p → ∃ w ∈ ws, p <+: w
  | [], p, h => by simp [kb] at h
  | w :: ws, p, h => by
    by_cases e : p <+: w
    · exact ⟨w, by simp, e⟩
    · rw [kb, if_neg e, Nat.zero_add] at h
      obtain ⟨x, hx, h1⟩ := kb_pos ws p h
      exact ⟨x, by simp [hx], h1⟩
theorem kb_le (ws : List Bs) (hb : ∀ w ∈ ws, bt w) (hl : ∀ w ∈ ws, w.length ≤ 12) (hn : ws.Nodup) (hp : preB ws = true) : ∀ (n : Nat) (p : Bs), p.length + n = 12 → kb ws p ≤ 2 ^ n := by
  intro n
  induction n with
  | zero =>
    intro p h
    have z : ∀ c : UInt8, kb ws (p ++ [c]) = 0 := fun c => kb_zero ws _ (fun w hw h' => by have := h'.length_le; have := hl w hw; simp at *; omega)
    rw [kb_split ws p hb, z, z]
    by_cases e : p ∈ ws
    · rw [ke_yes ws p e hn, show 12 - p.length = 0 from by omega]; decide
    · rw [ke_no ws p e]; decide
  | succ n ih =>
    intro p h
    rw [kb_split ws p hb]
    by_cases e : p ∈ ws
    · have z : ∀ c : UInt8, kb ws (p ++ [c]) = 0 := fun c => kb_zero ws _ (fun w hw h' => by
        have := preB_t hp e hw (pre_of_snoc h')
        rw [← this] at h'
        exact snoc_not h')
      rw [z, z, ke_yes ws p e hn, show 12 - p.length = n + 1 from by omega]; omega
    · have i0 := ih (p ++ [48]) (by simp; omega)
      have i1 := ih (p ++ [49]) (by simp; omega)
      rw [ke_no ws p e, Nat.pow_succ]; omega
/-- The words that begin with some bits fill what there is. -/
def full (ws : List Bs) (p : Bs) : Prop := kb ws p = 2 ^ (12 - p.length)
theorem full_next {ws : List Bs} (hb : ∀ w ∈ ws, bt w) (hl : ∀ w ∈ ws, w.length ≤ 12) (hn : ws.Nodup) (hp : preB ws = true) {p : Bs} (h : full ws p) (hp12 : p.length < 12) (he : p ∉ ws) (c : UInt8) (hc : c = 48 ∨ c = 49) : full ws (p ++ [c]) := by
  unfold full at *
  have hs := kb_split ws p hb
  rw [h, ke_no ws p he] at hs
  obtain ⟨n, hn12⟩ : ∃ n, p.length + (n + 1) = 12 := ⟨11 - p.length, by omega⟩
  have i0 := kb_le ws hb hl hn hp n (p ++ [48]) (by simp; omega)
  have i1 := kb_le ws hb hl hn hp n (p ++ [49]) (by simp; omega)
  have e0 : 12 - p.length = n + 1 := by omega
  have e1 : 12 - (p ++ [c]).length = n := by simp; omega
  rw [e0, Nat.pow_succ] at hs
  rw [e1]
  rcases hc with rfl | rfl <;> omega
theorem full_all {ws : List Bs} (hb : ∀ w ∈ ws, bt w) (hl : ∀ w ∈ ws, w.length ≤ 12) (hn : ws.Nodup) (hp : preB ws = true) (h0 : full ws []) : ∀ (n : Nat) (p : Bs), p.length = n → n ≤ 12 → bt p → (∀ q, q <+: p → q ≠ p → q ∉ ws) → full ws p := by
  intro n
  induction n with
  | zero => intro p h _ _ _; rw [List.length_eq_zero_iff] at h; subst h; exact h0
  | succ n ih =>
    intro p h h12 hbp hq
    rcases List.eq_nil_or_concat p with rfl | ⟨q, c, rfl⟩
    · simp at h
    · rw [List.concat_eq_append] at *
      have hl' : q.length = n := by simp at h; omega
      refine full_next hb hl hn hp (ih q hl' (by omega) (fun x hx => hbp x (by simp [hx])) (fun r hr hne => hq r (List.IsPrefix.trans hr (List.prefix_append _ _)) (fun e => by subst e; exact snoc_not hr))) (by omega) (hq q (List.prefix_append _ _) (by simp)) c (hbp c (by simp))
/-- A complete code: behind each beginning of a word that is not the whole word, both bits lead to beginnings of words. -/
theorem goes_on {ws : List Bs} (hb : ∀ w ∈ ws, bt w) (hl : ∀ w ∈ ws, w.length ≤ 12) (hn : ws.Nodup) (hp : preB ws = true) (h0 : full ws []) {p w : Bs} (hw : w ∈ ws) (hpw : p <+: w) (hne : p ≠ w) (c : UInt8) (hc : c = 48 ∨ c = 49) : ∃ v ∈ ws, p ++ [c] <+: v := by
  have hlen : p.length < w.length := by
    rcases Nat.lt_or_ge p.length w.length with h | h
    · exact h
    · exact absurd (hpw.eq_of_length (Nat.le_antisymm hpw.length_le h)) hne
  have hbp : bt p := fun x hx => hb w hw x (hpw.subset hx)
  have := hl w hw
  have hf : full ws (p ++ [c]) := full_all hb hl hn hp h0 _ (p ++ [c]) rfl (by simp; omega) (fun x hx => by
      rcases List.mem_append.1 hx with h | h
      · exact hbp x h
      · simp at h; subst h; exact hc) (fun q hq hqne hqw => by
      have hqp : q <+: p := by
        rcases Nat.lt_or_ge p.length q.length with h | h
        · have h2 := hq.length_le
          exact absurd (hq.eq_of_length (by simp at *; omega)) hqne
        · exact List.prefix_of_prefix_length_le hq (List.prefix_append _ _) h
      have := preB_t hp hqw hw (hqp.trans hpw)
      subst this
      have := hqp.length_le
      omega)
  refine kb_pos ws _ ?_
  unfold full at hf
  rw [hf]
  exact Nat.pow_pos (by decide)
theorem kr_kb : ∀ (ws : List ByteArray), kr ws = kb (ws.map (·.data.toList)) []
  | [] => rfl
  | x :: xs => by rw [kr, List.map_cons, kb, if_pos List.nil_prefix, kr_kb xs]; simp
end Go.Proofs.Ytijmfienaoeboaa
