/- Plain: stations that send with a token, in turn. -/
import Derived.Test.YtjhgkkecconcaabNdP
namespace Go.Proofs.Ytjhgkkecconcaab
open Go Go.RowKit
set_option linter.unusedVariables false

/-- What is left, when stations have sent last, and the time, behind j turns. -/
structure TkS where
  left : List Int
  done : List Int
  time : Int
def tkI (l : List Int) : TkS := ⟨l, List.replicate l.length 0, 0⟩
def tkN (n : Nat) (hd g : Int) (j : Nat) (s : TkS) : TkS :=
  ⟨s.left.set (j % n) (s.left.getD (j % n) 0 - min (s.left.getD (j % n) 0) hd),
   if 0 < s.left.getD (j % n) 0 then s.done.set (j % n) (s.time + min (s.left.getD (j % n) 0) hd) else s.done,
   s.time + min (s.left.getD (j % n) 0) hd + g⟩
def tkS (l : List Int) (hd g : Int) : Nat → TkS
  | 0 => tkI l
  | j + 1 => tkN l.length hd g j (tkS l hd g j)
/-- How many turns station k has had. -/
def tnS (n j k : Nat) : Nat := j / n + (if k < j % n then 1 else 0)
theorem mod_succ (n j : Nat) (hn : 0 < n) : (j + 1) % n = if j % n + 1 = n then 0 else j % n + 1 := by
  have h1 := Nat.mod_lt j hn
  rw [Nat.add_mod]
  by_cases h2 : n = 1
  · subst h2; simp [Nat.mod_one]
  · rw [Nat.mod_eq_of_lt (show 1 < n by omega)]
    split
    · rename_i h; rw [h, Nat.mod_self]
    · exact Nat.mod_eq_of_lt (by omega)
theorem div_succ (n j : Nat) (hn : 0 < n) : (j + 1) / n = if j % n + 1 = n then j / n + 1 else j / n := by
  have h1 := Nat.mod_lt j hn
  have h2 := Nat.div_add_mod j n
  have h3 := Nat.div_add_mod (j + 1) n
  have h4 := mod_succ n j hn
  split
  · rename_i h
    rw [if_pos h] at h4
    refine Nat.div_eq_of_lt_le ?_ ?_
    · rw [Nat.add_mul, Nat.mul_comm]; omega
    · rw [Nat.add_mul, Nat.add_mul, Nat.mul_comm]; omega
  · rename_i h
    refine Nat.div_eq_of_lt_le ?_ ?_
    · rw [Nat.mul_comm]; omega
    · rw [Nat.add_mul, Nat.mul_comm]; omega
theorem tnS_succ (n j k : Nat) (hn : 0 < n) (hk : k < n) : tnS n (j + 1) k = tnS n j k + (if k = j % n then 1 else 0) := by
  have h1 := Nat.mod_lt j hn
  unfold tnS
  rw [div_succ n j hn, mod_succ n j hn]
  by_cases h : j % n + 1 = n
  · rw [if_pos h, if_pos h]
    by_cases h2 : k = j % n
    · rw [if_pos h2, if_neg (by omega), if_neg (by omega)]
    · rw [if_neg h2, if_neg (by omega), if_pos (by omega)]
  · rw [if_neg h, if_neg h]
    by_cases h2 : k = j % n
    · rw [if_pos h2, if_pos (by omega), if_neg (by omega)]
    · rw [if_neg h2]
      by_cases h3 : k < j % n
      · rw [if_pos h3, if_pos (by omega)]
      · rw [if_neg h3, if_neg (by omega)]
def tkOkS (l : List Int) (hd g : Int) : Prop := 1 ≤ l.length ∧ l.length ≤ 12 ∧ (∀ x ∈ l, 0 ≤ x ∧ x ≤ 1000) ∧ 1 ≤ hd ∧ hd ≤ 1000 ∧ 0 ≤ g ∧ g ≤ 1000
/-- What holds at all times. -/
structure TkI (l : List Int) (s : TkS) (j : Nat) : Prop where
  len : s.left.length = l.length
  dlen : s.done.length = l.length
  low : ∀ k (h : k < s.left.length), 0 ≤ s.left[k] ∧ s.left[k] ≤ max 0 (1000 - (tnS l.length j k : Int))
  time : 0 ≤ s.time ∧ s.time ≤ 2000 * j
  done : ∀ k (h : k < s.done.length), 0 ≤ s.done[k] ∧ s.done[k] ≤ s.time
theorem getD_at {l : List Int} {k : Nat} (h : k < l.length) : l.getD k 0 = l[k] := by simp [List.getD, List.getElem?_eq_getElem h]
theorem tkI_all {l : List Int} {hd g : Int} (h : tkOkS l hd g) : ∀ j, TkI l (tkS l hd g j) j
  | 0 => by
    obtain ⟨h1, h2, h3, h4, h5, h6, h7⟩ := h
    refine ⟨rfl, by simp [tkS, tkI], fun k hk => ?_, by simp [tkS, tkI], fun k hk => by simp [tkS, tkI]⟩
    have := h3 l[k] (List.getElem_mem _)
    have e : tnS l.length 0 k = 0 := by unfold tnS; simp
    rw [e]
    simp only [tkS, tkI]
    omega
  | j + 1 => by
    have ih := tkI_all h j
    obtain ⟨h1, h2, h3, h4, h5, h6, h7⟩ := h
    obtain ⟨a1, a2, a3, a4, a5⟩ := ih
    generalize hs : tkS l hd g j = s at *
    have hm := Nat.mod_lt j (show 0 < l.length by omega)
    have hx := a3 (j % l.length) (by omega)
    have ex : s.left.getD (j % l.length) 0 = s.left[j % l.length]'(by omega) := getD_at (by omega)
    have hbig : s.left[j % l.length]'(by omega) ≤ 1000 := by omega
    have e : tkS l hd g (j + 1) = tkN l.length hd g j s := by rw [tkS, hs]
    rw [e]
    unfold tkN
    rw [ex]
    generalize hx' : s.left[j % l.length]'(by omega) = x at *
    refine ⟨by simp [a1], by dsimp only; split <;> simp [a2], fun k hk => ?_, by dsimp only; omega, fun k hk => ?_⟩
    · dsimp only at hk ⊢
      have hk' : k < s.left.length := by simpa using hk
      rw [tnS_succ _ _ _ (by omega) (by omega), List.getElem_set]
      by_cases ek : j % l.length = k
      · rw [if_pos ek, if_pos ek.symm]
        subst ek
        omega
      · rw [if_neg ek, if_neg (fun e => ek e.symm)]
        exact a3 k hk'
    · dsimp only at hk ⊢
      split
      · rename_i h0
        have hk' : k < s.done.length := by rw [if_pos h0] at hk; simpa using hk
        rw [List.getElem_set]
        split
        · omega
        · have := a5 k hk'; omega
      · rename_i h0
        have hk' : k < s.done.length := by rw [if_neg h0] at hk; exact hk
        have := a5 k hk'; omega
end Go.Proofs.Ytjhgkkecconcaab
