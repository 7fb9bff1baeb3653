/- Plain facts on Pascal's triangle, without the program. -/
namespace Go.Proofs.Ytnlnoookpcplgaa
/-- Ways to choose, by Pascal's triangle. -/
def pas : Nat → Nat → Nat
  | _, 0 => 1
  | 0, _ + 1 => 0
  | n + 1, k + 1 => pas n k + pas n (k + 1)
theorem pas_zero (n : Nat) : pas n 0 = 1 := by cases n <;> rfl
theorem pas_succ (n k : Nat) : pas (n + 1) (k + 1) = pas n k + pas n (k + 1) := rfl
theorem pas_gt : ∀ (n k : Nat), n < k → pas n k = 0
  | 0, k + 1, _ => rfl
  | n + 1, k + 1, h => by rw [pas_succ, pas_gt n k (by omega), pas_gt n (k + 1) (by omega)]
theorem pas_self : ∀ n, pas n n = 1
  | 0 => rfl
  | n + 1 => by rw [pas_succ, pas_self n, pas_gt n (n + 1) (by omega)]
theorem pas_mul : ∀ (n k : Nat), pas n (k + 1) * (k + 1) + pas n k * k = pas n k * n
  | 0, 0 => rfl
  | 0, k + 1 => by simp [pas]
  | n + 1, 0 => by
    have h := pas_mul n 0
    rw [pas_succ, pas_zero, pas_zero] at *
    omega
  | n + 1, k + 1 => by
    have h1 := pas_mul n k
    have h2 := pas_mul n (k + 1)
    rw [pas_succ n (k + 1), pas_succ n k]
    generalize pas n k = a at *
    generalize pas n (k + 1) = b at *
    generalize pas n (k + 1 + 1) = c at *
    have e1 : (b + c) * (k + 1 + 1) = b * (k + 1) + b + c * (k + 1 + 1) := by rw [Nat.add_mul]; simp [Nat.mul_add]
    have e2 : (a + b) * (k + 1) = a * k + a + b * (k + 1) := by rw [Nat.add_mul]; simp [Nat.mul_add]
    have e3 : (a + b) * (n + 1) = a * n + b * n + a + b := by rw [Nat.add_mul]; simp [Nat.mul_add]; omega
    rw [e1, e2, e3]
    omega
/-- What the program's step gives. -/
theorem pas_step (n k : Nat) : pas n k * (n - k) = pas n (k + 1) * (k + 1) := by
  have h1 := pas_mul n k
  rw [Nat.mul_sub]
  omega
def rowL : Nat → List Nat
  | 0 => [1]
  | n + 1 => (0 :: rowL n).zipWith (· + ·) (rowL n ++ [0])
def rowsOk : Nat → List Nat → Bool
  | 0, _ => true
  | f + 1, l => l.all (fun x => decide (x ≤ 118264581564861424)) && rowsOk f ((0 :: l).zipWith (· + ·) (l ++ [0]))
theorem rowsOk_61 : rowsOk 61 [1] = true := by decide +kernel
theorem rowL_get : ∀ (n k : Nat), (rowL n).length = n + 1 ∧ (rowL n).getD k 0 = pas n k
  | 0, 0 => ⟨rfl, rfl⟩
  | 0, k + 1 => ⟨rfl, rfl⟩
  | n + 1, 0 => by
    obtain ⟨h1, h2⟩ := rowL_get n 0
    refine ⟨by simp [rowL, h1], ?_⟩
    rw [pas_zero] at *
    have : 0 < (rowL n).length := by omega
    simp only [rowL]
    cases hl : rowL n with
    | nil => rw [hl] at this; simp at this
    | cons a l => rw [hl] at h2; simp at h2 ⊢; exact h2
  | n + 1, k + 1 => by
    obtain ⟨h1, h2⟩ := rowL_get n k
    have h3 := (rowL_get n (k + 1)).2
    refine ⟨by simp [rowL, h1], ?_⟩
    rw [pas_succ, ← h2, ← h3]
    simp only [rowL, List.getD_eq_getElem?_getD, List.getElem?_zipWith]
    by_cases hk : k < n
    · rw [List.getElem?_cons_succ, List.getElem?_append_left (by omega)]
      rw [List.getElem?_eq_getElem (show k < (rowL n).length by omega), List.getElem?_eq_getElem (show k + 1 < (rowL n).length by omega)]
      simp
    · by_cases hk2 : k = n
      · subst hk2
        rw [List.getElem?_cons_succ, List.getElem?_append_right (by omega), h1]
        rw [List.getElem?_eq_getElem (show k < (rowL k).length by omega), List.getElem?_eq_none (show (rowL k).length ≤ k + 1 by omega)]
        simp
      · rw [List.getElem?_cons_succ, List.getElem?_eq_none (show (rowL n).length ≤ k by omega), List.getElem?_eq_none (show (rowL n).length ≤ k + 1 by omega)]
        simp
theorem rowsOk_get : ∀ (f m : Nat), rowsOk f (rowL m) = true → ∀ n, m ≤ n → n < m + f → ∀ k, pas n k ≤ 118264581564861424
  | 0, m, _, n, h1, h2, _ => by omega
  | f + 1, m, h, n, h1, h2, k => by
    rw [rowsOk] at h
    obtain ⟨ha, hb⟩ := Bool.and_eq_true_iff.1 h
    by_cases e : n = m
    · subst e
      rw [← (rowL_get n k).2, List.getD_eq_getElem?_getD]
      cases hg : (rowL n)[k]? with
      | none => simp
      | some x =>
        rw [List.all_eq_true] at ha
        simpa using ha x (List.mem_of_getElem? hg)
    · exact rowsOk_get f (m + 1) hb n (by omega) (by omega) k
theorem pas_le (n k : Nat) (h : n ≤ 60) : pas n k ≤ 118264581564861424 := rowsOk_get 61 0 rowsOk_61 n (Nat.zero_le _) (by omega) k
end Go.Proofs.Ytnlnoookpcplgaa
