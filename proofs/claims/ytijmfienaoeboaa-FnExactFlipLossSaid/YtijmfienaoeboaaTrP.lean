/- Tries: the nodes by their paths: plain facts. -/
import Derived.WalkKit
import Derived.Lib.Hide
namespace Go.Proofs.Ytijmfienaoeboaa
open Go Go.RowKit
set_option linter.unusedVariables false

abbrev Bs := List UInt8
/-- The place of what is in a list. -/
def ixn : List Bs → Bs → Nat
  | [], _ => 0
  | y :: ys, x => if y = x then 0 else ixn ys x + 1
theorem ixn_lt : ∀ (ps : List Bs) (x : Bs), x ∈ ps → ∃ h : ixn ps x < ps.length, ps[ixn ps x] = x
  | [], x, h => by simp at h
  | y :: ys, x, h => by
    by_cases e : y = x
    · have : ixn (y :: ys) x = 0 := by rw [ixn, if_pos e]
      subst e; exact ⟨by rw [this]; simp, by simp [this]⟩
    · have e2 : ixn (y :: ys) x = ixn ys x + 1 := by rw [ixn, if_neg e]
      obtain ⟨h1, h2⟩ := ixn_lt ys x (by rcases List.mem_cons.1 h with h' | h'; exact absurd h'.symm e; exact h')
      exact ⟨by rw [e2]; simp; exact h1, by simp [e2, h2]⟩
theorem ixn_app : ∀ (ps : List Bs) (x q : Bs), x ∈ ps → ixn (ps ++ [q]) x = ixn ps x
  | [], x, q, h => by simp at h
  | y :: ys, x, q, h => by
    rw [List.cons_append, ixn, ixn]
    by_cases e : y = x
    · rw [if_pos e, if_pos e]
    · rw [if_neg e, if_neg e, ixn_app ys x q (by rcases List.mem_cons.1 h with h' | h'; exact absurd h'.symm e; exact h')]
theorem ixn_new : ∀ (ps : List Bs) (q : Bs), q ∉ ps → ixn (ps ++ [q]) q = ps.length
  | [], q, h => by simp [ixn]
  | y :: ys, q, h => by
    rw [List.cons_append, ixn, if_neg (fun e => h (by simp [e])), ixn_new ys q (fun h' => h (by simp [h']))]; rfl
theorem nd_inj {ys : List Bs} (hn : ys.Nodup) {j k : Nat} (hj : j < ys.length) (hk : k < ys.length) (e : ys[j] = ys[k]) : j = k := by
  have hp := List.pairwise_iff_getElem.1 hn
  rcases Nat.lt_trichotomy j k with h | h | h
  · exact absurd e (hp j k hj hk h)
  · exact h
  · exact absurd e.symm (hp k j hk hj h)
/-- The index of what is in a list, or -1. -/
def ix (ps : List Bs) (x : Bs) : Int := if x ∈ ps then (ixn ps x : Int) else -1
theorem ix_in {ps : List Bs} {x : Bs} (h : x ∈ ps) : ix ps x = (ixn ps x : Int) := if_pos h
theorem ix_out {ps : List Bs} {x : Bs} (h : x ∉ ps) : ix ps x = -1 := if_neg h
theorem ix_lt {ps : List Bs} {x : Bs} (h : x ∈ ps) : 0 ≤ ix ps x ∧ ix ps x < (ps.length : Int) := by
  rw [ix_in h]; have := (ixn_lt ps x h).1; omega
theorem ix_bd (ps : List Bs) (x : Bs) : -1 ≤ ix ps x ∧ ix ps x < (ps.length : Int) := by
  by_cases h : x ∈ ps
  · have := ix_lt h; omega
  · rw [ix_out h]; omega
theorem ix_at {ps : List Bs} {x : Bs} (h : x ∈ ps) : ∃ i : Nat, ∃ hi : i < ps.length, ix ps x = (i : Int) ∧ ps[i] = x := by
  obtain ⟨h1, h2⟩ := ixn_lt ps x h
  exact ⟨_, h1, ix_in h, h2⟩
theorem ix_get {ps : List Bs} (hn : ps.Nodup) (i : Nat) (h : i < ps.length) : ix ps ps[i] = (i : Int) := by
  obtain ⟨j, hj, e1, e2⟩ := ix_at (List.getElem_mem h)
  rw [e1, nd_inj hn hj h e2]
theorem ix_app {ps : List Bs} {x : Bs} (h : x ∈ ps) (q : Bs) : ix (ps ++ [q]) x = ix ps x := by
  rw [ix_in h, ix_in (List.mem_append_left _ h), ixn_app ps x q h]
theorem ix_app_new {ps : List Bs} {q : Bs} (h : q ∉ ps) : ix (ps ++ [q]) q = (ps.length : Int) := by
  rw [ix_in (by simp), ixn_new ps q h]
theorem ix_app_out {ps : List Bs} {x q : Bs} (h : x ∉ ps) (hq : x ≠ q) : ix (ps ++ [q]) x = -1 := ix_out (by simp [h, hq])

/-- A node: where its two bits lead, and its symbol. -/
def nod (ps ws : List Bs) (p : Bs) : List Value := [.int .i64 (ix ps (p ++ [48])), .int .i64 (ix ps (p ++ [49])), .int .i64 (ix ws p)]
/-- All nodes of paths. -/
def nodes (ps ws : List Bs) : List Value := ps.flatMap (nod ps ws)
/-- The paths are closed: each one's beginning is one. -/
structure Trie (ps ws : List Bs) : Prop where
  nd : ps.Nodup
  wd : ws.Nodup
  root : ps[0]? = some []
  pre : ∀ p c, p ++ [c] ∈ ps → p ∈ ps
  sub : ∀ w ∈ ws, w ∈ ps

theorem flat3_len (f : Bs → List Value) (hf : ∀ p, (f p).length = 3) : ∀ ps : List Bs, (ps.flatMap f).length = 3 * ps.length
  | [] => rfl
  | p :: ps => by rw [List.flatMap_cons, List.length_append, hf, flat3_len f hf ps, List.length_cons]; omega
theorem flat3_at (f : Bs → List Value) (hf : ∀ p, (f p).length = 3) : ∀ (ps : List Bs) (i j : Nat) (hi : i < ps.length) (hj : j < 3), (ps.flatMap f)[3 * i + j]? = (f ps[i])[j]?
  | [], i, j, hi, hj => by simp at hi
  | p :: ps, 0, j, hi, hj => by
    rw [List.flatMap_cons, List.getElem?_append_left (by rw [hf]; omega)]; simp
  | p :: ps, i + 1, j, hi, hj => by
    rw [List.flatMap_cons, List.getElem?_append_right (by rw [hf]; omega), hf, show 3 * (i + 1) + j - 3 = 3 * i + j from by omega, flat3_at f hf ps i j (by simpa using hi) hj]
    rfl
theorem nod_len (ps ws : List Bs) (p : Bs) : (nod ps ws p).length = 3 := rfl
theorem nodes_len (ps ws : List Bs) : (nodes ps ws).length = 3 * ps.length := flat3_len _ (nod_len ps ws) ps
theorem nodes_at (ps ws : List Bs) (i j : Nat) (hi : i < ps.length) (hj : j < 3) : (nodes ps ws)[3 * i + j]? = (nod ps ws ps[i])[j]? := flat3_at _ (nod_len ps ws) ps i j hi hj
/-- Two rows of nodes are the same if they are so at each place. -/
theorem flat3_ext (f g : Bs → List Value) (hf : ∀ p, (f p).length = 3) (hg : ∀ p, (g p).length = 3) (ps : List Bs) (l : List Value) (hl : l.length = 3 * ps.length) (h : ∀ i j, (hi : i < ps.length) → j < 3 → l[3 * i + j]? = (g ps[i])[j]?) : l = ps.flatMap g := by
  apply List.ext_getElem?
  intro k
  by_cases hk : k < 3 * ps.length
  · have e : k = 3 * (k / 3) + k % 3 := by omega
    have hi : k / 3 < ps.length := by omega
    have hj : k % 3 < 3 := by omega
    rw [e, h _ _ hi hj, flat3_at g hg ps _ _ hi hj]
  · rw [List.getElem?_eq_none (by omega), List.getElem?_eq_none (by rw [flat3_len g hg]; omega)]

theorem snoc_ne {p q : Bs} {c : UInt8} : p ++ [c] ≠ [] := by simp
theorem snoc_inj {p q : Bs} {c d : UInt8} (h : p ++ [c] = q ++ [d]) : p = q ∧ c = d := by
  have := List.append_inj' h rfl
  exact ⟨this.1, by simpa using this.2⟩
/-- A new path: its node comes behind the others, and the one before it leads there. -/
theorem grow {ps ws : List Bs} (T : Trie ps ws) (i : Nat) (hi : i < ps.length) (d : Nat) (hd : d < 2) (c : UInt8) (hc : c = if d = 0 then 48 else 49) (hq : ps[i] ++ [c] ∉ ps) :
    (nodes ps ws).set (3 * i + d) (.int .i64 (ps.length : Int)) ++ [.int .i64 (-1), .int .i64 (-1), .int .i64 (-1)] = nodes (ps ++ [ps[i] ++ [c]]) ws ∧ Trie (ps ++ [ps[i] ++ [c]]) ws := by
  obtain ⟨q, hqe⟩ : ∃ q, q = ps[i] ++ [c] := ⟨_, rfl⟩
  rw [← hqe] at hq ⊢
  have hT : Trie (ps ++ [q]) ws := by
    refine ⟨?_, T.wd, ?_, ?_, fun w hw => List.mem_append_left _ (T.sub w hw)⟩
    · rw [List.nodup_append]
      exact ⟨T.nd, by simp, fun a ha b hb e => by simp at hb; subst hb; exact hq (e ▸ ha)⟩
    · rw [List.getElem?_append_left (by omega)]; exact T.root
    · intro p x hp
      rcases List.mem_append.1 hp with hp | hp
      · exact List.mem_append_left _ (T.pre p x hp)
      · simp at hp
        rw [hqe] at hp
        rw [(snoc_inj hp).1]
        exact List.mem_append_left _ (List.getElem_mem hi)
  refine ⟨?_, hT⟩
  unfold nodes
  rw [List.flatMap_append]
  have e1 : ([q] : List Bs).flatMap (nod (ps ++ [q]) ws) = [.int .i64 (-1), .int .i64 (-1), .int .i64 (-1)] := by
    have hx : ∀ x : UInt8, ix (ps ++ [q]) (q ++ [x]) = -1 := fun x => ix_app_out (fun h => hq (T.pre q x h)) (by intro h; have := congrArg List.length h; simp at this)
    have hw : ix ws q = -1 := ix_out (fun h => hq (T.sub q h))
    simp [nod, hx, hw]
  rw [e1]
  congr 1
  refine flat3_ext (nod ps ws) (nod (ps ++ [q]) ws) (nod_len _ _) (nod_len _ _) ps _ (by rw [List.length_set]; exact nodes_len ps ws) ?_
  intro k j hk hj
  have hone : ∀ (x : UInt8), ¬ (k = i ∧ x = c) → ix (ps ++ [q]) (ps[k] ++ [x]) = ix ps (ps[k] ++ [x]) := by
    intro x hx
    by_cases hin : ps[k] ++ [x] ∈ ps
    · exact ix_app hin q
    · rw [ix_out hin]
      refine ix_app_out hin ?_
      intro e
      rw [hqe] at e
      obtain ⟨e1, e2⟩ := snoc_inj e
      refine hx ⟨?_, e2⟩
      have := ix_get T.nd k hk
      rw [e1, ix_get T.nd i hi] at this
      omega
  have hnew : ix (ps ++ [q]) (ps[i] ++ [c]) = (ps.length : Int) := by rw [← hqe]; exact ix_app_new hq
  by_cases e : 3 * k + j = 3 * i + d
  · have ek : k = i := by omega
    have ej : j = d := by omega
    subst ek ej
    rw [List.getElem?_set_self (by have := nodes_len ps ws; unfold nodes at this; omega)]
    rcases (show j = 0 ∨ j = 1 from by omega) with rfl | rfl
    · simp at hc
      subst hc
      simp [nod, hnew]
    · simp at hc
      subst hc
      simp [nod, hnew]
  · rw [List.getElem?_set_ne (fun h => e h.symm)]
    have := nodes_at ps ws k j hk hj
    unfold nodes at this
    rw [this]
    have hx0 : ¬ (3 * k + 0 = 3 * i + d) → ix (ps ++ [q]) (ps[k] ++ [48]) = ix ps (ps[k] ++ [48]) := by
      intro h
      refine hone 48 ?_
      rintro ⟨rfl, h2⟩
      rcases (show d = 0 ∨ d = 1 from by omega) with rfl | rfl
      · exact h rfl
      · rw [hc] at h2; simp at h2
    have hx1 : ¬ (3 * k + 1 = 3 * i + d) → ix (ps ++ [q]) (ps[k] ++ [49]) = ix ps (ps[k] ++ [49]) := by
      intro h
      refine hone 49 ?_
      rintro ⟨rfl, h2⟩
      rcases (show d = 0 ∨ d = 1 from by omega) with rfl | rfl
      · rw [hc] at h2; simp at h2
      · exact h rfl
    rcases (show j = 0 ∨ j = 1 ∨ j = 2 from by omega) with rfl | rfl | rfl
    · simp [nod, hx0 e]
    · simp [nod, hx1 e]
    · simp [nod]

/-- A word that ends at a node. -/
theorem mark {ps ws : List Bs} (T : Trie ps ws) (i : Nat) (hi : i < ps.length) (hw : ps[i] ∉ ws) :
    (nodes ps ws).set (3 * i + 2) (.int .i64 (ws.length : Int)) = nodes ps (ws ++ [ps[i]]) ∧ Trie ps (ws ++ [ps[i]]) := by
  obtain ⟨q, hqe⟩ : ∃ q, q = ps[i] := ⟨_, rfl⟩
  rw [← hqe] at hw ⊢
  have hT : Trie ps (ws ++ [q]) := by
    refine ⟨T.nd, ?_, T.root, T.pre, ?_⟩
    · rw [List.nodup_append]
      exact ⟨T.wd, by simp, fun a ha b hb e => by simp at hb; subst hb; exact hw (e ▸ ha)⟩
    · intro w hw'
      rcases List.mem_append.1 hw' with h | h
      · exact T.sub w h
      · simp at h; subst h; rw [hqe]; exact List.getElem_mem hi
  refine ⟨?_, hT⟩
  refine flat3_ext (nod ps ws) (nod ps (ws ++ [q])) (nod_len _ _) (nod_len _ _) ps _ (by rw [List.length_set]; exact nodes_len ps ws) ?_
  intro k j hk hj
  by_cases e : 3 * k + j = 3 * i + 2
  · have ek : k = i := by omega
    have ej : j = 2 := by omega
    subst ek ej
    rw [List.getElem?_set_self (by have := nodes_len ps ws; omega)]
    have : ix (ws ++ [q]) ps[k] = (ws.length : Int) := by rw [← hqe]; exact ix_app_new hw
    simp [nod, this]
  · rw [List.getElem?_set_ne (fun h => e h.symm), nodes_at ps ws k j hk hj]
    rcases (show j = 0 ∨ j = 1 ∨ j = 2 from by omega) with rfl | rfl | rfl
    · simp [nod]
    · simp [nod]
    · have hki : k ≠ i := by omega
      have : ix (ws ++ [q]) ps[k] = ix ws ps[k] := by
        by_cases hin : ps[k] ∈ ws
        · exact ix_app hin q
        · rw [ix_out hin]
          refine ix_app_out hin ?_
          intro e'
          rw [hqe] at e'
          have := ix_get T.nd k hk
          rw [e', ix_get T.nd i hi] at this
          omega
      simp [nod, this]
/-- The trie of no words. -/
theorem trie_nil : nodes [[]] [] = [.int .i64 (-1), .int .i64 (-1), .int .i64 (-1)] ∧ Trie [[]] [] := by
  refine ⟨?_, ⟨by simp, by simp, rfl, ?_, by simp⟩⟩
  · have h : ∀ x : UInt8, ix [[]] [x] = -1 := fun x => ix_out (by simp)
    have h2 : ix [] [] = -1 := ix_out (by simp)
    simp [nodes, nod, h, h2]
  · intro p c hp
    simp at hp
end Go.Proofs.Ytijmfienaoeboaa
