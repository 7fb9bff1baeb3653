/- What the trie of a code tells: which words are beginnings of others, and where a reader of a complete code goes on: plain facts. -/
import Derived.Test.YtijmfienaoeboaaKrP
namespace Go.Proofs.Ytijmfienaoeboaa
open Go Go.RowKit
set_option linter.unusedVariables false

/-- Each path is a beginning of a word, or of one that is being laid. -/
def Cov (ps ws : List Bs) (x : Bs) : Prop := ∀ p ∈ ps, p = [] ∨ (∃ w ∈ ws, p <+: w) ∨ p <+: x
theorem pre_closed {ps ws : List Bs} (T : Trie ps ws) : ∀ (n : Nat) (p q : Bs), q ∈ ps → p <+: q → q.length = p.length + n → p ∈ ps := by
  intro n
  induction n with
  | zero => intro p q hq hp hl; rw [hp.eq_of_length (by omega)]; exact hq
  | succ n ih =>
    intro p q hq hp hl
    rcases List.eq_nil_or_concat q with rfl | ⟨r, c, rfl⟩
    · simp at hl
    · rw [List.concat_eq_append] at *
      refine ih p r (T.pre r c hq) ?_ (by simp at hl; omega)
      exact List.prefix_of_prefix_length_le hp (List.prefix_append _ _) (by simp at hl; omega)
theorem pre_in {ps ws : List Bs} (T : Trie ps ws) {p w : Bs} (hw : w ∈ ws) (hp : p <+: w) : p ∈ ps :=
  pre_closed T (w.length - p.length) p w (T.sub w hw) hp (by have := hp.length_le; omega)
/-- A word ends at a node, and the node leads on. -/
def lng (ps ws : List Bs) (p : Bs) : Bool := decide (ix ws p ≠ -1) && (decide (ix ps (p ++ [48]) ≠ -1) || decide (ix ps (p ++ [49]) ≠ -1))
theorem ix_ne {ps : List Bs} {x : Bs} : ix ps x ≠ -1 ↔ x ∈ ps := by
  constructor
  · intro h
    by_cases e : x ∈ ps
    · exact e
    · exact absurd (ix_out e) h
  · intro h e
    have := ix_lt h
    omega
theorem lng_any {ps ws : List Bs} (T : Trie ps ws) (C : Cov ps ws []) (hb : ∀ w ∈ ws, bt w) : ps.any (lng ps ws) = !preB ws := by
  cases e : preB ws
  · -- some word begins another one
    rw [Bool.not_false, List.any_eq_true]
    have : ∃ x ∈ ws, ∃ y ∈ ws, x <+: y ∧ x ≠ y := by
      refine Classical.byContradiction fun hno => ?_
      rw [preB_mk (fun x hx y hy hp => Classical.byContradiction fun hne => hno ⟨x, hx, y, hy, hp, hne⟩)] at e
      cases e
    obtain ⟨x, hx, y, hy, hp, hne⟩ := this
    refine ⟨x, T.sub x hx, ?_⟩
    unfold lng
    rw [decide_eq_true (ix_ne.2 hx), Bool.true_and, Bool.or_eq_true]
    rcases pre_split (hb y hy) hp with h | h | h
    · exact absurd h.symm hne
    · exact .inl (decide_eq_true (ix_ne.2 (pre_in T hy h)))
    · exact .inr (decide_eq_true (ix_ne.2 (pre_in T hy h)))
  · rw [Bool.not_true]
    cases h : ps.any (lng ps ws)
    · rfl
    · rw [List.any_eq_true] at h
      obtain ⟨p, hp, h⟩ := h
      unfold lng at h
      obtain ⟨h1, h2⟩ := Bool.and_eq_true_iff.1 h
      have hpw := ix_ne.1 (of_decide_eq_true h1)
      have key : ∀ c : UInt8, p ++ [c] ∈ ps → False := by
        intro c hc
        rcases C _ hc with h | ⟨w, hw, h⟩ | h
        · simp at h
        · have := preB_t e hpw hw (pre_of_snoc h)
          subst this
          exact snoc_not h
        · have := h.length_le; simp at this
      rcases Bool.or_eq_true_iff.1 h2 with h | h
      · exact (key _ (ix_ne.1 (of_decide_eq_true h))).elim
      · exact (key _ (ix_ne.1 (of_decide_eq_true h))).elim

/-- What a reader of a complete code has read behind one more bit. -/
def rdOn (ws : List Bs) (r : Bs) (c : UInt8) : Bs := if r ++ [c] ∈ ws then [] else r ++ [c]
/-- A complete code of bits. -/
structure Cmp (ws : List Bs) : Prop where
  bits : ∀ w ∈ ws, bt w
  short : ∀ w ∈ ws, w.length ≤ 12
  some : ∀ w ∈ ws, w ≠ []
  nd : ws.Nodup
  pre : preB ws = true
  full : full ws []
/-- What a reader can have read. -/
def Rdr (ws : List Bs) (r : Bs) : Prop := r ∉ ws ∧ ∃ w ∈ ws, r <+: w
theorem Cmp.root {ws : List Bs} (h : Cmp ws) : Rdr ws [] := by
  refine ⟨fun hw => h.some _ hw rfl, ?_⟩
  obtain ⟨w, hw, _⟩ := kb_pos ws [] (by have := h.full; unfold Go.Proofs.Ytijmfienaoeboaa.full at this; rw [this]; decide)
  exact ⟨w, hw, List.nil_prefix⟩
theorem Cmp.on {ws : List Bs} (h : Cmp ws) {r : Bs} (hr : Rdr ws r) (c : UInt8) (hc : c = 48 ∨ c = 49) : (∃ v ∈ ws, r ++ [c] <+: v) ∧ Rdr ws (rdOn ws r c) := by
  obtain ⟨w, hw, hp⟩ := hr.2
  obtain ⟨v, hv, h2⟩ := goes_on h.bits h.short h.nd h.pre h.full hw hp (fun e => hr.1 (e ▸ hw)) c hc
  refine ⟨⟨v, hv, h2⟩, ?_⟩
  unfold rdOn
  by_cases e : r ++ [c] ∈ ws
  · rw [if_pos e]; exact h.root
  · rw [if_neg e]; exact ⟨e, v, hv, h2⟩
theorem ix_root {ps ws : List Bs} (T : Trie ps ws) : ix ps [] = 0 := by
  have h := T.root
  obtain ⟨h0, h1⟩ := List.getElem?_eq_some_iff.1 h
  have := ix_get T.nd 0 h0
  rw [h1] at this
  exact this
end Go.Proofs.Ytijmfienaoeboaa
