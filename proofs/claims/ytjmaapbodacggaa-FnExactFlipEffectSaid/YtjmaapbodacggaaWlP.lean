/- Plain facts on lists of words, the index of a word, and maps from words to their indices: without the program. -/
import Derived.Maps.OwnSet
import Derived.Maps.Views
namespace Go.Proofs.Ytjmaapbodacggaa
open Go Go.Maps
set_option linter.unusedVariables false

/-- The index of a word in a list, counted from i on, or -1. -/
def fnd : List ByteArray → ByteArray → Nat → Int
  | [], _, _ => -1
  | y :: ys, x, i => if y = x then (i : Int) else fnd ys x (i + 1)
theorem fnd_not : ∀ (ys : List ByteArray) (x : ByteArray) (i : Nat), x ∉ ys → fnd ys x i = -1
  | [], _, _, _ => rfl
  | y :: ys, x, i, h => by
    rw [fnd, if_neg (fun e => h (by simp [e])), fnd_not ys x (i + 1) (fun e => h (by simp [e]))]
theorem fnd_at : ∀ (ys : List ByteArray) (x : ByteArray) (i : Nat), x ∈ ys → ∃ k : Nat, fnd ys x i = ((i + k : Nat) : Int) ∧ ys[k]? = some x
  | [], x, i, h => by simp at h
  | y :: ys, x, i, h => by
    rw [fnd]
    by_cases e : y = x
    · rw [if_pos e]; exact ⟨0, rfl, by simp [e]⟩
    · rw [if_neg e]
      obtain ⟨k, h1, h2⟩ := fnd_at ys x (i + 1) (by rcases List.mem_cons.1 h with h' | h'; exact absurd h'.symm e; exact h')
      exact ⟨k + 1, by rw [h1]; congr 1; omega, by simpa using h2⟩
/-- Whether a word stands in a list. -/
def inW (ys : List ByteArray) (x : ByteArray) : Bool := ys.any fun y => decide (y = x)
theorem inW_t {ys : List ByteArray} {x : ByteArray} (h : x ∈ ys) : inW ys x = true := by
  unfold inW; rw [List.any_eq_true]; exact ⟨x, h, by simp⟩
theorem inW_f {ys : List ByteArray} {x : ByteArray} (h : x ∉ ys) : inW ys x = false := by
  cases e : inW ys x
  · rfl
  · unfold inW at e
    rw [List.any_eq_true] at e
    obtain ⟨y, hy, e⟩ := e
    exact absurd ((of_decide_eq_true e) ▸ hy) h
theorem fnd_lt (ys : List ByteArray) (x : ByteArray) : -1 ≤ fnd ys x 0 ∧ fnd ys x 0 < (ys.length : Int) + 1 := by
  by_cases h : x ∈ ys
  · obtain ⟨k, h1, h2⟩ := fnd_at ys x 0 h
    have := (List.getElem?_eq_some_iff.1 h2).1
    rw [h1]; omega
  · rw [fnd_not _ _ _ h]; omega
theorem fnd_nonneg (ys : List ByteArray) (x : ByteArray) : decide (0 ≤ fnd ys x 0) = inW ys x := by
  by_cases h : x ∈ ys
  · obtain ⟨k, h1, h2⟩ := fnd_at ys x 0 h
    rw [h1, inW_t h, decide_eq_true (by omega)]
  · rw [fnd_not _ _ _ h, inW_f h]; rfl
theorem nodup_inj {ys : List ByteArray} (hn : ys.Nodup) {j k : Nat} (hj : j < ys.length) (hk : k < ys.length) (e : ys[j] = ys[k]) : j = k := by
  have hp := List.pairwise_iff_getElem.1 hn
  rcases Nat.lt_trichotomy j k with h | h | h
  · exact absurd e (hp j k hj hk h)
  · exact h
  · exact absurd e.symm (hp k j hk hj h)
theorem fnd_nodup (ys : List ByteArray) (hn : ys.Nodup) (k : Nat) (h : k < ys.length) : fnd ys ys[k] 0 = (k : Int) := by
  obtain ⟨j, h1, h2⟩ := fnd_at ys ys[k] 0 (List.getElem_mem h)
  obtain ⟨hj, h3⟩ := List.getElem?_eq_some_iff.1 h2
  have := nodup_inj hn hj h h3
  rw [h1]; omega
theorem fnd_drop (ys : List ByteArray) (x : ByteArray) (k : Nat) (h : k < ys.length) : fnd (ys.drop k) x k = if ys[k] = x then (k : Int) else fnd (ys.drop (k + 1)) x (k + 1) := by
  rw [List.drop_eq_getElem_cons h, fnd]

/-- No word stands twice: of a longer list. -/
theorem nodup_snoc (ys : List ByteArray) (x : ByteArray) : (ys ++ [x]).Nodup ↔ ys.Nodup ∧ x ∉ ys := by
  rw [List.nodup_append]
  constructor
  · rintro ⟨h1, -, h3⟩
    exact ⟨h1, fun h => h3 x h x (by simp) rfl⟩
  · rintro ⟨h1, h2⟩
    refine ⟨h1, by simp, ?_⟩
    intro a ha b hb e
    simp at hb
    subst hb
    exact h2 (e ▸ ha)

/-- A word as a key. -/
def keyL (x : ByteArray) : Lit := .string x.data.toList
theorem keyL_inj {x y : ByteArray} (h : keyL x = keyL y) : x = y := by
  unfold keyL at h
  injection h with h
  exact ByteArray.ext (Array.toList_inj.1 h)
theorem keyL_is (x : ByteArray) : WideAt.IsKeyLit (keyL x) := trivial

variable {H : Type}
/-- The map from words to their indices, later ones in place of earlier ones. -/
def wMap : List ByteArray → Nat → DataW H → DataW H
  | [], _, m => m
  | x :: xs, i, m => wMap xs (i + 1) (m.put (keyL x) (.lit (.int .i64 (i : Int))))
theorem wMap_snoc : ∀ (xs : List ByteArray) (x : ByteArray) (i : Nat) (m : DataW H), wMap (xs ++ [x]) i m = (wMap xs i m).put (keyL x) (.lit (.int .i64 ((i + xs.length : Nat) : Int)))
  | [], x, i, m => rfl
  | y :: ys, x, i, m => by
    rw [List.cons_append, wMap, wMap, wMap_snoc ys x]
    congr 4
    simp; omega
/-- .. of a whole list. -/
def wM (xs : List ByteArray) : DataW H := wMap xs 0 (.map [])
theorem wM_nil : (wM [] : DataW H) = .map [] := rfl
theorem wM_snoc (xs : List ByteArray) (x : ByteArray) : (wM (xs ++ [x]) : DataW H) = (wM xs).put (keyL x) (.lit (.int .i64 (xs.length : Int))) := by
  unfold wM; rw [wMap_snoc, Nat.zero_add]
theorem wM_tidy : ∀ (n : Nat) (xs : List ByteArray), xs.length = n → Tidy (wM xs : DataW H) := by
  intro n
  induction n with
  | zero => intro xs h; rw [List.length_eq_zero_iff] at h; subst h; exact tidy_empty
  | succ n ih =>
    intro xs h
    rcases List.eq_nil_or_concat xs with rfl | ⟨ys, y, rfl⟩
    · simp at h
    · rw [List.concat_eq_append] at *
      rw [wM_snoc]
      exact (ih ys (by simp at h; omega)).put (keyL_is _) _
theorem wM_has (x : ByteArray) : ∀ (n : Nat) (xs : List ByteArray), xs.length = n → has (wM xs : DataW H) (keyL x) = inW xs x := by
  intro n
  induction n with
  | zero => intro xs h; rw [List.length_eq_zero_iff] at h; subst h; rfl
  | succ n ih =>
    intro xs h
    rcases List.eq_nil_or_concat xs with rfl | ⟨ys, y, rfl⟩
    · simp at h
    · rw [List.concat_eq_append] at *
      rw [wM_snoc]
      have hy := ih ys (by simp at h; omega)
      by_cases e : x = y
      · subst e
        rw [has_put_same (wM_tidy _ ys rfl).isMap (keyL_is _), inW_t (by simp)]
      · rw [has_put_other (fun e' => e (keyL_inj e')), hy]
        have e2 : decide (y = x) = false := decide_eq_false (fun e' => e e'.symm)
        simp [inW, e2]
theorem wM_size : ∀ (n : Nat) (xs : List ByteArray), xs.length = n → size (wM xs : DataW H) ≤ n ∧ (size (wM xs : DataW H) = n ↔ xs.Nodup) := by
  intro n
  induction n with
  | zero => intro xs h; rw [List.length_eq_zero_iff] at h; subst h; exact ⟨Nat.le_refl _, by simp [wM, wMap, size]⟩
  | succ n ih =>
    intro xs h
    rcases List.eq_nil_or_concat xs with rfl | ⟨ys, y, rfl⟩
    · simp at h
    · rw [List.concat_eq_append] at *
      have hl : ys.length = n := by simp at h; omega
      obtain ⟨h1, h2⟩ := ih ys hl
      rw [wM_snoc, size_put (wM_tidy _ ys rfl), wM_has y _ ys rfl, nodup_snoc]
      by_cases e : y ∈ ys
      · rw [inW_t e, if_pos rfl]
        exact ⟨by omega, by constructor; intro h'; omega; intro h'; exact absurd e h'.2⟩
      · rw [inW_f e, if_neg (by decide)]
        exact ⟨by omega, by constructor; intro h'; exact ⟨h2.1 (by omega), e⟩; intro h'; have := h2.2 h'.1; omega⟩
theorem wM_at (x : ByteArray) (z : DataW H) : ∀ (n : Nat) (xs : List ByteArray), xs.length = n → xs.Nodup → x ∈ xs → (wM xs).atKey (keyL x) z = .lit (.int .i64 (fnd xs x 0)) := by
  intro n
  induction n with
  | zero => intro xs h _ hx; rw [List.length_eq_zero_iff] at h; subst h; simp at hx
  | succ n ih =>
    intro xs h hn hx
    rcases List.eq_nil_or_concat xs with rfl | ⟨ys, y, rfl⟩
    · simp at h
    · rw [List.concat_eq_append] at *
      have hl : ys.length = n := by simp at h; omega
      obtain ⟨h1, h2⟩ := (nodup_snoc ys y).1 hn
      by_cases e : x = y
      · subst e
        have hk := fnd_nodup (ys ++ [x]) hn ys.length (by simp)
        rw [List.getElem_append_right (by omega)] at hk
        simp at hk
        rw [wM_snoc, atKey_put_same (wM_tidy _ ys rfl).isMap (keyL_is _), hk]
      · have hx' : x ∈ ys := by
          rcases List.mem_append.1 hx with h' | h'
          · exact h'
          · simp at h'; exact absurd h' e
        rw [wM_snoc, atKey_put_other (fun e' => e (keyL_inj e')), ih ys hl h1 hx']
        obtain ⟨k, hk1, hk2⟩ := fnd_at ys x 0 hx'
        obtain ⟨hk3, hk4⟩ := List.getElem?_eq_some_iff.1 hk2
        have hk := fnd_nodup (ys ++ [y]) hn k (by simp; omega)
        rw [List.getElem_append_left hk3, hk4] at hk
        rw [hk, hk1]; simp
/-- No word: no index, whatever the map. -/
theorem wM_at_not (x : ByteArray) (z : DataW H) (xs : List ByteArray) (hx : x ∉ xs) : (wM xs : DataW H).atKey (keyL x) z = z :=
  atKey_of_not_has (by rw [wM_has x _ xs rfl, inW_f hx]) z
end Go.Proofs.Ytjmaapbodacggaa
