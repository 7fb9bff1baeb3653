/- Plain facts on the period of a key, without the program. -/
import Derived.Test.YtddlpbpcdjddpaaScS
namespace Go.Proofs.Ytddlpbpcdjddpaa
set_option linter.unusedVariables false
open Go Go.RowKit
/-- The next state: the last bits, as many as the width. -/
def nx (l : List Int) (u : List Nat) : List Nat := u.drop 1 ++ [sm l u]
def wn (l : List Int) (u : List Nat) : Nat → List Nat
  | 0 => u
  | k + 1 => nx l (wn l u k)
theorem nx_ok {l : List Int} {u : List Nat} (h : bitsN u) (h0 : 0 < u.length) : bitsN (nx l u) ∧ (nx l u).length = u.length :=
  ⟨bitsN_app (fun x hx => h x (List.mem_of_mem_drop hx)) (bitsN_one (sm_le h l)), by simp [nx]; omega⟩
theorem wn_ok {l : List Int} {u : List Nat} (h : bitsN u) (h0 : 0 < u.length) : ∀ k, bitsN (wn l u k) ∧ (wn l u k).length = u.length
  | 0 => ⟨h, rfl⟩
  | k + 1 => by
    obtain ⟨a, b⟩ := wn_ok h h0 k
    have := nx_ok (l := l) a (by omega)
    exact ⟨this.1, this.2.trans b⟩
theorem php : ∀ (n : Nat) (f : Nat → Nat), (∀ i, i ≤ n → f i < n) → ∃ i j, i < j ∧ j ≤ n ∧ f i = f j
  | 0, f, h => absurd (h 0 (Nat.le_refl _)) (by omega)
  | n + 1, f, h => by
    by_cases he : ∃ i, i ≤ n ∧ f i = f (n + 1)
    · obtain ⟨i, hi, e⟩ := he
      exact ⟨i, n + 1, by omega, Nat.le_refl _, e⟩
    · obtain ⟨i, j, hij, hj, e⟩ := php n (fun i => if f i = n then f (n + 1) else f i) (fun i hi => by
        have h1 := h i (by omega)
        have h2 := h (n + 1) (Nat.le_refl _)
        show (if f i = n then f (n + 1) else f i) < n
        split
        · rename_i e
          have : f (n + 1) ≠ n := fun e2 => he ⟨i, hi, by omega⟩
          omega
        · omega)
      refine ⟨i, j, hij, by omega, ?_⟩
      have e : (if f i = n then f (n + 1) else f i) = (if f j = n then f (n + 1) else f j) := e
      split at e <;> split at e
      · omega
      · exact absurd ⟨j, by omega, e.symm⟩ he
      · exact absurd ⟨i, by omega, e⟩ he
      · exact e
/-- The number of some bits. -/
def nbF (u : List Nat) (a : Nat) : Nat := u.foldl (fun n b => 2 * n + b) a
def nb (u : List Nat) : Nat := nbF u 0
theorem nbF_eq : ∀ (u : List Nat) (a : Nat), nbF u a = a * 2 ^ u.length + nb u
  | [], a => by simp [nbF, nb]
  | b :: u, a => by
    show nbF u (2 * a + b) = a * 2 ^ (u.length + 1) + nbF u (2 * 0 + b)
    rw [nbF_eq u (2 * a + b), nbF_eq u (2 * 0 + b), Nat.pow_succ]
    have : (2 * a + b) * 2 ^ u.length = a * (2 ^ u.length * 2) + (2 * 0 + b) * 2 ^ u.length := by
      rw [Nat.add_mul, Nat.mul_zero, Nat.zero_add, Nat.mul_assoc, Nat.mul_left_comm, Nat.mul_comm 2 (2 ^ u.length)]
    omega
theorem nb_cons (b : Nat) (u : List Nat) : nb (b :: u) = b * 2 ^ u.length + nb u := by
  show nbF u (2 * 0 + b) = _
  rw [nbF_eq]; simp
theorem nb_lt : ∀ (u : List Nat), bitsN u → nb u < 2 ^ u.length
  | [], _ => by simp [nb, nbF]
  | b :: u, h => by
    have h1 := nb_lt u (fun x hx => h x (List.mem_cons_of_mem _ hx))
    have h2 := h b (List.mem_cons_self ..)
    rw [nb_cons, List.length_cons, Nat.pow_succ]
    have h3 : b = 0 ∨ b = 1 := by omega
    rcases h3 with rfl | rfl <;> omega
theorem nb_inj : ∀ (u v : List Nat), bitsN u → bitsN v → u.length = v.length → nb u = nb v → u = v
  | [], [], _, _, _, _ => rfl
  | [], b :: v, _, _, h, _ => by simp at h
  | a :: u, [], _, _, h, _ => by simp at h
  | a :: u, b :: v, hu, hv, hl, h => by
    have hlen : u.length = v.length := by simpa using hl
    have u1 : bitsN u := fun x hx => hu x (List.mem_cons_of_mem _ hx)
    have v1 : bitsN v := fun x hx => hv x (List.mem_cons_of_mem _ hx)
    have h1 := nb_lt u u1
    have h2 := nb_lt v v1
    have a1 := hu a (List.mem_cons_self ..)
    have b1 := hv b (List.mem_cons_self ..)
    rw [nb_cons, nb_cons, hlen] at h
    rw [hlen] at h1
    have a2 : a = 0 ∨ a = 1 := by omega
    have b2 : b = 0 ∨ b = 1 := by omega
    rcases a2 with rfl | rfl <;> rcases b2 with rfl | rfl
    · rw [nb_inj u v u1 v1 hlen (by omega)]
    · omega
    · omega
    · rw [nb_inj u v u1 v1 hlen (by omega)]
/-- The taps but the greatest one do not see the eldest bit. -/
theorem smF_tail (a b : Nat) (t : List Nat) : ∀ (m : List Int) (x : Nat), (∀ n ∈ m, 1 ≤ n ∧ n ≤ (t.length : Int)) → smF m (a :: t) x = smF m (b :: t) x
  | [], x, _ => rfl
  | n :: m, x, h => by
    have hn := h n (List.mem_cons_self ..)
    show smF m (a :: t) (x ^^^ bk (a :: t) n) = smF m (b :: t) (x ^^^ bk (b :: t) n)
    have e : bk (a :: t) n = bk (b :: t) n := by
      unfold bk
      obtain ⟨i, hi⟩ : ∃ i, t.length + 1 - n.toNat = i + 1 := ⟨t.length - n.toNat, by omega⟩
      rw [List.length_cons, List.length_cons, hi]
      simp [List.getD]
    rw [e]
    exact smF_tail a b t m _ (fun k hk => h k (List.mem_cons_of_mem _ hk))
theorem xor_cancel {c a b : Nat} (ha : a ≤ 1) (hb : b ≤ 1) (hc : c ≤ 1) (h : c ^^^ a = c ^^^ b) : a = b := by
  have a1 : a = 0 ∨ a = 1 := by omega
  have b1 : b = 0 ∨ b = 1 := by omega
  have c1 : c = 0 ∨ c = 1 := by omega
  rcases a1 with rfl | rfl <;> rcases b1 with rfl | rfl <;> rcases c1 with rfl | rfl <;> first | rfl | (exact absurd h (by decide))
theorem nx_inj {l : List Int} {u v : List Nat} (ht : tpOk l = true) (hu : bitsN u) (hv : bitsN v) (lu : (u.length : Int) = wid l) (lv : (v.length : Int) = wid l) (h : nx l u = nx l v) : u = v := by
  have hw := tpOk_wid ht
  obtain ⟨l0, l1, l2⟩ := tpOk_parts ht
  cases u with
  | nil => simp at lu; omega
  | cons a t =>
    cases v with
    | nil => simp at lv; omega
    | cons b t' =>
      unfold nx at h
      obtain ⟨e1, e2⟩ := List.append_inj' h rfl
      simp only [List.drop_succ_cons, List.drop_zero] at e1
      subst e1
      have e2 : sm l (a :: t) = sm l (b :: t) := by simpa using e2
      have hne : l ≠ [] := by intro e; subst e; simp at l0
      have hlast : l = l.dropLast ++ [wid l] := by
        have := wid_at l0
        rw [this, ← List.getLast_eq_getElem hne]
        exact (List.dropLast_concat_getLast hne).symm
      have hdl : ∀ n ∈ l.dropLast, 1 ≤ n ∧ n ≤ (t.length : Int) := by
        intro n hn
        obtain ⟨i, hi, rfl⟩ := List.getElem_of_mem hn
        rw [List.length_dropLast] at hi
        rw [List.getElem_dropLast]
        have h1 := tpOk_le ht i (by omega)
        have h2 := inc_far l1 (l.length - 1 - i) i (by omega)
        rw [wid_at l0] at lu
        simp only [show i + (l.length - 1 - i) = l.length - 1 from by omega] at h2
        rw [List.length_cons] at lu
        exact ⟨h1.1, by omega⟩
      have bw : ∀ x, bk (x :: t) (wid l) = x := by
        intro x
        unfold bk
        rw [show (x :: t).length - (wid l).toNat = 0 from by rw [List.length_cons] at lu ⊢; omega]
        rfl
      have su : ∀ x, sm l (x :: t) = smF l.dropLast (x :: t) 0 ^^^ x := by
        intro x
        have : sm l (x :: t) = smF (l.dropLast ++ [wid l]) (x :: t) 0 := by rw [← hlast]; rfl
        rw [this, smF_snoc, bw]
      rw [su, su, smF_tail a b t _ _ hdl] at e2
      rw [xor_cancel (hu a (List.mem_cons_self ..)) (hv b (List.mem_cons_self ..)) (smF_le hv _ _ (by omega)) e2]
theorem wn_back {l : List Int} {u : List Nat} (ht : tpOk l = true) (hu : bitsN u) (lu : (u.length : Int) = wid l) : ∀ i d, wn l u i = wn l u (i + d) → u = wn l u d
  | 0, d, h => by simpa [wn] using h
  | i + 1, d, h => by
    have h0 : 0 < u.length := by have := (tpOk_wid ht).1; omega
    have a := wn_ok (l := l) hu h0 i
    have b := wn_ok (l := l) hu h0 (i + d)
    refine wn_back ht hu lu i d (nx_inj ht a.1 b.1 (by rw [a.2]; exact lu) (by rw [b.2]; exact lu) ?_)
    rw [show i + 1 + d = (i + d) + 1 from by omega] at h
    exact h
/-- A state comes again. -/
theorem wn_again {l : List Int} {u : List Nat} (ht : tpOk l = true) (hu : bitsN u) (lu : (u.length : Int) = wid l) : ∃ k, k < 65536 ∧ wn l u (k + 1) = u := by
  have hw := tpOk_wid ht
  have h0 : 0 < u.length := by omega
  obtain ⟨i, j, hij, hj, e⟩ := php 65536 (fun k => nb (wn l u k)) (fun k _ => by
    have a := wn_ok (l := l) hu h0 k
    have h1 := nb_lt _ a.1
    have h2 : 2 ^ (wn l u k).length ≤ 2 ^ 16 := Nat.pow_le_pow_right (by omega) (by rw [a.2]; omega)
    exact Nat.lt_of_lt_of_le h1 h2)
  have a := wn_ok (l := l) hu h0 i
  have b := wn_ok (l := l) hu h0 j
  have e2 := nb_inj _ _ a.1 b.1 (by rw [a.2, b.2]) e
  have := wn_back ht hu lu i (j - i) (by rw [show i + (j - i) = j from by omega]; exact e2)
  exact ⟨j - i - 1, by omega, by rw [show j - i - 1 + 1 = j - i from by omega]; exact this.symm⟩
theorem find_first (p : Nat → Bool) : ∀ (n k : Nat), (List.range n).find? p = some k → k < n ∧ p k = true ∧ ∀ j, j < k → p j = false
  | 0, k, h => by simp at h
  | n + 1, k, h => by
    rw [List.range_succ, List.find?_append] at h
    cases e : (List.range n).find? p with
    | some k' =>
      rw [e] at h
      have h : some k' = some k := h
      injection h with h
      subst h
      obtain ⟨a, b, c⟩ := find_first p n k' e
      exact ⟨by omega, b, c⟩
    | none =>
      rw [e] at h
      have h : [n].find? p = some k := h
      have hp : p n = true ∧ n = k := by
        cases hn : p n
        · simp [hn] at h
        · simp [hn] at h; exact ⟨rfl, h⟩
      obtain ⟨hp, rfl⟩ := hp
      refine ⟨by omega, hp, fun j hj => ?_⟩
      have := List.find?_eq_none.1 e j (List.mem_range.2 hj)
      simpa using this
/-- The period of a key. -/
def kpF (l : List Int) (u : List Nat) (n : Nat) : Nat := match (List.range n).find? (fun k => decide (wn l u (k + 1) = u)) with | some k => k + 1 | none => 0
def kpN (l : List Int) (u : List Nat) : Nat := kpF l u 65536
theorem kpF_ok {l : List Int} {u : List Nat} {n : Nat} (h : ∃ k, k < n ∧ wn l u (k + 1) = u) : 1 ≤ kpF l u n ∧ kpF l u n ≤ n ∧ wn l u (kpF l u n) = u ∧ ∀ j, 1 ≤ j → j < kpF l u n → wn l u j ≠ u := by
  unfold kpF
  cases e : (List.range n).find? (fun k => decide (wn l u (k + 1) = u)) with
  | none =>
    obtain ⟨k, hk, hu⟩ := h
    have := List.find?_eq_none.1 e k (List.mem_range.2 hk)
    simp [hu] at this
  | some k =>
    obtain ⟨a, b, c⟩ := find_first _ n k e
    refine ⟨by show 1 ≤ k + 1; omega, by show k + 1 ≤ n; omega, of_decide_eq_true b, fun j hj hlt => ?_⟩
    have hlt : j < k + 1 := hlt
    have := of_decide_eq_false (c (j - 1) (by omega))
    rwa [show j - 1 + 1 = j from by omega] at this
theorem kpN_ok {l : List Int} {u : List Nat} (ht : tpOk l = true) (hu : bitsN u) (lu : (u.length : Int) = wid l) : 1 ≤ kpN l u ∧ kpN l u ≤ 65536 ∧ wn l u (kpN l u) = u ∧ ∀ j, 1 ≤ j → j < kpN l u → wn l u j ≠ u := kpF_ok (wn_again ht hu lu)
end Go.Proofs.Ytddlpbpcdjddpaa
