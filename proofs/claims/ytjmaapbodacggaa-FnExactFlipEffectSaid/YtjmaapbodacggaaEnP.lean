/- Sending data by a block code: plain facts; the state behind a word. -/
import Derived.Test.YtjmaapbodacggaaBcP
namespace Go.Proofs.Ytjmaapbodacggaa
open Go Go.RowKit
set_option linter.unusedVariables false

/-- The state behind a word. -/
def nxS (s : Int) (x : ByteArray) : Int := if 0 < disL x.data.toList then 1 else if disL x.data.toList < 0 then -1 else s
/-- The word of data in a state. -/
def wAt (m p : List ByteArray) (s n : Int) : ByteArray := (if s < 0 then m else p).getD n.toNat ByteArray.empty
/-- What is sent, and the state behind it. -/
def encS (m p : List ByteArray) (s : Int) (xs : List Int) : ByteArray × Int := xs.foldl (fun a n => (a.1 ++ wAt m p a.2 n, nxS a.2 (wAt m p a.2 n))) (ByteArray.empty, s)
theorem encS_nil (m p : List ByteArray) (s : Int) : encS m p s [] = (ByteArray.empty, s) := rfl
theorem encS_snoc (m p : List ByteArray) (s : Int) (xs : List Int) (n : Int) : encS m p s (xs ++ [n]) = ((encS m p s xs).1 ++ wAt m p (encS m p s xs).2 n, nxS (encS m p s xs).2 (wAt m p (encS m p s xs).2 n)) := by
  simp [encS, List.foldl_append]
theorem nxS_st (s : Int) (x : ByteArray) (h : s = -1 ∨ s = 1) : nxS s x = -1 ∨ nxS s x = 1 := by
  unfold nxS; split
  · exact .inr rfl
  · split
    · exact .inl rfl
    · exact h
theorem encS_st (m p : List ByteArray) (s : Int) (h : s = -1 ∨ s = 1) : ∀ (n : Nat) (xs : List Int), xs.length = n → (encS m p s xs).2 = -1 ∨ (encS m p s xs).2 = 1 := by
  intro n
  induction n with
  | zero => intro xs hl; rw [List.length_eq_zero_iff] at hl; subst hl; exact h
  | succ n ih =>
    intro xs hl
    rcases List.eq_nil_or_concat xs with rfl | ⟨ys, y, rfl⟩
    · simp at hl
    · rw [List.concat_eq_append] at *
      rw [encS_snoc]
      exact nxS_st _ _ (ih ys (by simp at hl; omega))
/-- Data that a code has. -/
def inD (d : Nat) (n : Int) : Bool := decide (0 ≤ n ∧ n ≤ 2 ^ d - 1)
theorem wAt_ok {d wd : Int} {m p : List ByteArray} (h : bcOk d wd m p = true) (s n : Int) (hn : inD d.toNat n = true) : isB (wAt m p s n).data.toList = true ∧ ((wAt m p s n).size : Int) = wd := by
  unfold bcOk at h
  obtain ⟨h0, h1⟩ := Bool.and_eq_true_iff.1 h
  obtain ⟨h2, h3⟩ := Bool.and_eq_true_iff.1 h1
  obtain ⟨h4, h5⟩ := Bool.and_eq_true_iff.1 h3
  obtain ⟨h6, h7⟩ := Bool.and_eq_true_iff.1 h5
  have h8 := (Bool.and_eq_true_iff.1 h7).1
  have hn' := of_decide_eq_true hn
  have e1 := of_decide_eq_true h2
  have e2 := of_decide_eq_true h4
  have e3 : ((2 ^ d.toNat : Nat) : Int) = (2 : Int) ^ d.toNat := by rw [Int.natCast_pow]; rfl
  unfold wAt
  split
  · have hk : n.toNat < m.length := by omega
    rw [List.getD_eq_getElem?_getD, List.getElem?_eq_getElem hk, Option.getD_some]
    obtain ⟨a, b, -⟩ := wordOk_parts ((wordsOk_parts h6).2 m[n.toNat] (List.getElem_mem hk))
    exact ⟨a, b⟩
  · have hk : n.toNat < p.length := by omega
    rw [List.getD_eq_getElem?_getD, List.getElem?_eq_getElem hk, Option.getD_some]
    obtain ⟨a, b, -⟩ := wordOk_parts ((wordsOk_parts h8).2 p[n.toNat] (List.getElem_mem hk))
    exact ⟨a, b⟩
theorem encS_len {d wd : Int} {m p : List ByteArray} (h : bcOk d wd m p = true) (s : Int) : ∀ (n : Nat) (xs : List Int), xs.length = n → xs.all (inD d.toNat) = true → ((encS m p s xs).1.size : Int) = wd * n := by
  intro n
  induction n with
  | zero => intro xs hl _; rw [List.length_eq_zero_iff] at hl; subst hl; rw [encS_nil]; simp
  | succ n ih =>
    intro xs hl ha
    rcases List.eq_nil_or_concat xs with rfl | ⟨ys, y, rfl⟩
    · simp at hl
    · rw [List.concat_eq_append] at *
      rw [List.all_append] at ha
      have ha' := Bool.and_eq_true_iff.1 ha
      have hy : inD d.toNat y = true := by simpa using ha'.2
      have h1 := ih ys (by simp at hl; omega) ha'.1
      have h2 := (wAt_ok h (encS m p s ys).2 y hy).2
      rw [encS_snoc]
      show (((encS m p s ys).1 ++ wAt m p (encS m p s ys).2 y).size : Int) = _
      rw [ByteArray.size_append, Int.natCast_add, h1, h2, Int.natCast_succ, Int.mul_add, Int.mul_one]
/-- What EncodeBlocks answers. -/
def stOk (s : Int) : Bool := decide (s = -1 ∨ s = 1)
def enOk (d wd : Int) (m p : List ByteArray) (s : Int) (xs : List Int) : Bool := bcOk d wd m p && (stOk s && (decide ((xs.length : Int) ≤ 400 / wd) && xs.all (inD d.toNat)))
def enV (d wd : Int) (m p : List ByteArray) (s : Int) (xs : List Int) : ByteArray := if enOk d wd m p s xs = true then (encS m p s xs).1 else ⟨#[]⟩
def enN (d wd : Int) (m p : List ByteArray) (s : Int) (xs : List Int) : Int := if enOk d wd m p s xs = true then (encS m p s xs).2 else 0
theorem en_no {d wd : Int} {m p : List ByteArray} {s : Int} {xs : List Int} (h : enOk d wd m p s xs = false) : enV d wd m p s xs = ⟨#[]⟩ ∧ enN d wd m p s xs = 0 := by
  unfold enV enN; rw [h]; exact ⟨rfl, rfl⟩
theorem en_yes {d wd : Int} {m p : List ByteArray} {s : Int} {xs : List Int} (h : enOk d wd m p s xs = true) : enV d wd m p s xs = (encS m p s xs).1 ∧ enN d wd m p s xs = (encS m p s xs).2 := by
  unfold enV enN; rw [h]; exact ⟨rfl, rfl⟩
theorem all_bad {α : Type} (f : α → Bool) (xs : List α) (k : Nat) (h : k < xs.length) (hb : f xs[k] = false) : xs.all f = false := by
  cases e : xs.all f
  · rfl
  · rw [List.all_eq_true] at e
    rw [e _ (List.getElem_mem h)] at hb
    cases hb
theorem all_take_succ {α : Type} (f : α → Bool) (xs : List α) (k : Nat) (h : k < xs.length) : (xs.take (k + 1)).all f = ((xs.take k).all f && f xs[k]) := by
  rw [List.take_succ_eq_append_getElem h, List.all_append]; simp
theorem bcOk_nums {d wd : Int} {m p : List ByteArray} (h : bcOk d wd m p = true) : ((1 ≤ d ∧ d ≤ 6) ∧ 2 ≤ wd ∧ wd ≤ 12) ∧ m.length = 2 ^ d.toNat ∧ p.length = 2 ^ d.toNat := by
  unfold bcOk at h
  obtain ⟨h0, h1⟩ := Bool.and_eq_true_iff.1 h
  obtain ⟨h2, h3⟩ := Bool.and_eq_true_iff.1 h1
  obtain ⟨h4, h5⟩ := Bool.and_eq_true_iff.1 h3
  have hz := of_decide_eq_true h0
  exact ⟨⟨hz.1, hz.2.1⟩, of_decide_eq_true h2, of_decide_eq_true h4⟩
end Go.Proofs.Ytjmaapbodacggaa
