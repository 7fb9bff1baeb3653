/- The journal, plain: entries, journals, what is recovered of a text. -/
import Derived.Test.YtnpigefbdadjfaaDoorChk
import Derived.Test.YtnpigefbdadjfaaDoorPd
import Derived.Lib.ItoaLen
import Derived.Lib.ItoaMem
namespace Go.Proofs.YtnpigefbdadjfaaDoor
open Go Go.RowKit
set_option linter.unusedVariables false

/-- The line of a journal, without its newline. -/
def ent (n : Int) (l : List UInt8) : List UInt8 := Lib.itoa (chk n l) ++ 32 :: l
def jnl (n : Int) : List (List UInt8) → List UInt8
  | [] => []
  | l :: ls => ent n l ++ 10 :: jnl (chk n l) ls
def chs (n : Int) (ls : List (List UInt8)) : Int := ls.foldl chk n
theorem chs_snoc (n : Int) (ls : List (List UInt8)) (l : List UInt8) : chs n (ls ++ [l]) = chk (chs n ls) l := by simp [chs, List.foldl_append]
theorem chs_bd : ∀ (ls : List (List UInt8)) (n : Int), 0 ≤ n → n ≤ 65002 → 0 ≤ chs n ls ∧ chs n ls ≤ 65002
  | [], n, h0, h1 => ⟨h0, h1⟩
  | l :: ls, n, h0, h1 => chs_bd ls (chk n l) (chk_bd n l h0 h1).1 (chk_bd n l h0 h1).2
theorem jnl_app : ∀ (a b : List (List UInt8)) (n : Int), jnl n (a ++ b) = jnl n a ++ jnl (chs n a) b
  | [], b, n => rfl
  | l :: a, b, n => by
    show ent n l ++ 10 :: jnl (chk n l) (a ++ b) = (ent n l ++ 10 :: jnl (chk n l) a) ++ jnl (chs (chk n l) a) b
    rw [jnl_app a b]; simp
theorem jnl_snoc (n : Int) (ls : List (List UInt8)) (l : List UInt8) : jnl n (ls ++ [l]) = jnl n ls ++ (ent (chs n ls) l ++ [10]) := by
  rw [jnl_app]; rfl
theorem itoa_dig (n : Int) (h : 0 ≤ n) : ∀ c ∈ Lib.itoa n, isDig c := by
  obtain ⟨u, rfl⟩ : ∃ u : Nat, n = (u : Int) := ⟨n.toNat, by omega⟩
  rw [Lib.itoa_nonneg]
  exact dig_dec u
theorem itoa_len1 (n : Int) (h0 : 0 ≤ n) (h1 : n ≤ 65002) : 1 ≤ (Lib.itoa n).length ∧ (Lib.itoa n).length ≤ 19 := by
  obtain ⟨u, rfl⟩ : ∃ u : Nat, n = (u : Int) := ⟨n.toNat, by omega⟩
  rw [Lib.itoa_nonneg]
  exact dec_len u (by omega)
theorem ent_len {n : Int} (h0 : 0 ≤ n) (h1 : n ≤ 65002) (l : List UInt8) : l.length + 2 ≤ (ent n l).length ∧ (ent n l).length ≤ l.length + 20 := by
  unfold ent
  have hb := chk_bd n l h0 h1
  have := itoa_len1 (chk n l) hb.1 hb.2
  rw [List.length_append, List.length_cons]
  omega
/-- Behind the first blank. -/
def aft : List UInt8 → List UInt8
  | [] => []
  | c :: r => if c = 32 then r else aft r
theorem aft_digs : ∀ (d : List UInt8) (l : List UInt8), (∀ c ∈ d, isDig c) → aft (d ++ 32 :: l) = l
  | [], l, _ => by simp [aft]
  | c :: d, l, h => by
    have hc := h c (List.mem_cons_self ..)
    have hne : c ≠ 32 := by intro e; rw [e] at hc; exact absurd hc.1 (by decide)
    show (if c = 32 then d ++ 32 :: l else aft (d ++ 32 :: l)) = l
    rw [if_neg hne]
    exact aft_digs d l (fun x hx => h x (List.mem_cons_of_mem _ hx))
theorem aft_ent {n : Int} (h0 : 0 ≤ n) (h1 : n ≤ 65002) (l : List UInt8) : aft (ent n l) = l := aft_digs _ _ (itoa_dig _ (chk_bd n l h0 h1).1)
theorem aft_mem {x : UInt8} : ∀ (l : List UInt8), x ∈ aft l → x ∈ l
  | [], h => h
  | c :: r, h => by
    unfold aft at h
    split at h
    · exact List.mem_cons_of_mem _ h
    · exact List.mem_cons_of_mem _ (aft_mem r h)
theorem aft_len : ∀ (l : List UInt8), (aft l).length ≤ l.length
  | [] => Nat.le_refl _
  | c :: r => by
    unfold aft
    have := aft_len r
    split
    · simp
    · simp; omega
theorem ent_no10 {n : Int} (h0 : 0 ≤ n) (h1 : n ≤ 65002) {l : List UInt8} (h : ∀ c ∈ l, c ≠ 10) : ∀ c ∈ ent n l, c ≠ 10 := by
  intro c hc
  unfold ent at hc
  rw [List.mem_append, List.mem_cons] at hc
  rcases hc with hc | rfl | hc
  · have := itoa_dig _ (chk_bd n l h0 h1).1 c hc
    intro e; rw [e] at this; exact absurd this.1 (by decide)
  · decide
  · exact h c hc
/-- The lines of a text that end with a newline. -/
def lnsA (a : List UInt8) : List UInt8 → List (List UInt8)
  | [] => []
  | c :: t => if c = 10 then a :: lnsA [] t else lnsA (a ++ [c]) t
def lns (t : List UInt8) : List (List UInt8) := lnsA [] t
theorem lnsA_none : ∀ (t a : List UInt8), (∀ c ∈ t, c ≠ 10) → lnsA a t = []
  | [], a, _ => rfl
  | c :: t, a, h => by
    show (if c = 10 then a :: lnsA [] t else lnsA (a ++ [c]) t) = []
    rw [if_neg (h c (List.mem_cons_self ..))]
    exact lnsA_none t _ (fun x hx => h x (List.mem_cons_of_mem _ hx))
theorem lnsA_cut : ∀ (p a r : List UInt8), (∀ c ∈ p, c ≠ 10) → lnsA a (p ++ 10 :: r) = (a ++ p) :: lnsA [] r
  | [], a, r, _ => by simp [lnsA]
  | c :: p, a, r, h => by
    show (if c = 10 then a :: lnsA [] (p ++ 10 :: r) else lnsA (a ++ [c]) (p ++ 10 :: r)) = _
    rw [if_neg (h c (List.mem_cons_self ..)), lnsA_cut p _ r (fun x hx => h x (List.mem_cons_of_mem _ hx))]
    simp
theorem lns_none {t : List UInt8} (h : ∀ c ∈ t, c ≠ 10) : lns t = [] := lnsA_none t [] h
theorem lns_cut {p : List UInt8} (r : List UInt8) (h : ∀ c ∈ p, c ≠ 10) : lns (p ++ 10 :: r) = p :: lns r := lnsA_cut p [] r h
/-- A text has a newline or none. -/
theorem nl_cases (t : List UInt8) : (∀ c ∈ t, c ≠ 10) ∨ ∃ p r, t = p ++ 10 :: r ∧ ∀ c ∈ p, c ≠ 10 := by
  induction t with
  | nil => exact .inl (fun c hc => by cases hc)
  | cons c t ih =>
    by_cases h : c = 10
    · exact .inr ⟨[], t, by rw [h]; rfl, fun x hx => by cases hx⟩
    · rcases ih with ih | ⟨p, r, rfl, hp⟩
      · left
        intro x hx
        rcases List.mem_cons.1 hx with rfl | hx
        · exact h
        · exact ih x hx
      · right
        refine ⟨c :: p, r, rfl, ?_⟩
        intro x hx
        rcases List.mem_cons.1 hx with rfl | hx
        · exact h
        · exact hp x hx
theorem lns_ind {P : List UInt8 → Prop} (h0 : ∀ t, (∀ c ∈ t, c ≠ 10) → P t) (h1 : ∀ p r, (∀ c ∈ p, c ≠ 10) → P r → P (p ++ 10 :: r)) (t : List UInt8) : P t := by
  have : ∀ n (t : List UInt8), t.length ≤ n → P t := by
    intro n
    induction n with
    | zero => intro t ht; rw [List.length_eq_zero_iff.1 (by omega : t.length = 0)]; exact h0 [] (fun c hc => by cases hc)
    | succ n ih =>
      intro t ht
      rcases nl_cases t with h | ⟨p, r, rfl, hp⟩
      · exact h0 t h
      · exact h1 p r hp (ih r (by rw [List.length_append, List.length_cons] at ht; omega))
  exact this _ t (Nat.le_refl _)
theorem lns_no10 (t : List UInt8) : ∀ e ∈ lns t, ∀ c ∈ e, c ≠ 10 := by
  refine lns_ind (P := fun t => ∀ e ∈ lns t, ∀ c ∈ e, c ≠ 10) ?_ ?_ t
  · intro t h e he
    rw [lns_none h] at he; cases he
  · intro p r hp ih e he
    rw [lns_cut r hp] at he
    rcases List.mem_cons.1 he with rfl | he
    · exact hp
    · exact ih e he
theorem lns_app (a b : List UInt8) : ∃ m, lns (a ++ b) = lns a ++ m := by
  refine lns_ind (P := fun a => ∃ m, lns (a ++ b) = lns a ++ m) ?_ ?_ a
  · intro t h
    rw [lns_none h]; exact ⟨_, rfl⟩
  · intro p r hp ⟨m, hm⟩
    rw [lns_cut r hp, List.append_assoc, List.cons_append, lns_cut _ hp, hm]
    exact ⟨m, rfl⟩
theorem lns_len (t : List UInt8) : (lns t).length ≤ t.length := by
  refine lns_ind (P := fun t => (lns t).length ≤ t.length) ?_ ?_ t
  · intro t h; rw [lns_none h]; simp
  · intro p r hp ih
    rw [lns_cut r hp, List.length_append, List.length_cons, List.length_cons]; omega
/-- The lines that are recovered of lines. -/
def rcv (n : Int) : List (List UInt8) → List (List UInt8)
  | [] => []
  | e :: es => if e = ent n (aft e) then aft e :: rcv (chk n (aft e)) es else []
theorem rcv_yes {n : Int} {e : List UInt8} (es : List (List UInt8)) (h : e = ent n (aft e)) : rcv n (e :: es) = aft e :: rcv (chk n (aft e)) es := by rw [rcv, if_pos h]
theorem rcv_no {n : Int} {e : List UInt8} (es : List (List UInt8)) (h : ¬ e = ent n (aft e)) : rcv n (e :: es) = [] := by rw [rcv, if_neg h]
theorem rcv_app (b : List (List UInt8)) : ∀ (a : List (List UInt8)) (n : Int), ∃ m, rcv n (a ++ b) = rcv n a ++ m
  | [], n => ⟨_, rfl⟩
  | e :: a, n => by
    by_cases h : e = ent n (aft e)
    · obtain ⟨m, hm⟩ := rcv_app b a (chk n (aft e))
      rw [List.cons_append, rcv_yes _ h, rcv_yes _ h, hm]
      exact ⟨m, rfl⟩
    · rw [List.cons_append, rcv_no _ h, rcv_no _ h]
      exact ⟨[], rfl⟩
theorem rcv_mem : ∀ (es : List (List UInt8)) (n : Int), ∀ l ∈ rcv n es, ∃ e ∈ es, l = aft e
  | [], n, l, h => by cases h
  | e :: es, n, l, h => by
    by_cases hh : e = ent n (aft e)
    · rw [rcv_yes _ hh] at h
      rcases List.mem_cons.1 h with rfl | h
      · exact ⟨e, List.mem_cons_self .., rfl⟩
      · obtain ⟨e', h1, h2⟩ := rcv_mem es _ l h
        exact ⟨e', List.mem_cons_of_mem _ h1, h2⟩
    · rw [rcv_no _ hh] at h; cases h
def rvL (t : List UInt8) : List (List UInt8) := rcv 0 (lns t)
def rvN (t : List UInt8) : Nat := (jnl 0 (rvL t)).length
theorem rv_no10 (t : List UInt8) : ∀ l ∈ rvL t, ∀ c ∈ l, c ≠ 10 := by
  intro l hl c hc
  obtain ⟨e, he, rfl⟩ := rcv_mem _ _ l hl
  exact lns_no10 t e he c (aft_mem e hc)
theorem rcv_pre (t : List UInt8) : ∀ n, ∃ r, t = jnl n (rcv n (lns t)) ++ r := by
  refine lns_ind (P := fun t => ∀ n, ∃ r, t = jnl n (rcv n (lns t)) ++ r) ?_ ?_ t
  · intro t h n
    rw [lns_none h]; exact ⟨t, rfl⟩
  · intro p r hp ih n
    rw [lns_cut r hp]
    by_cases h : p = ent n (aft p)
    · obtain ⟨q, hq⟩ := ih (chk n (aft p))
      rw [rcv_yes _ h]
      refine ⟨q, ?_⟩
      show p ++ 10 :: r = (ent n (aft p) ++ 10 :: jnl (chk n (aft p)) (rcv (chk n (aft p)) (lns r))) ++ q
      rw [← h, List.append_assoc, List.cons_append, ← hq]
    · rw [rcv_no _ h]; exact ⟨_, rfl⟩
/-- The journal of what is recovered is the text's beginning. -/
theorem rv_pre (t : List UInt8) : t.take (rvN t) = jnl 0 (rvL t) ∧ rvN t ≤ t.length := by
  obtain ⟨r, hr⟩ := rcv_pre t 0
  have e : t = jnl 0 (rvL t) ++ r := hr
  refine ⟨?_, ?_⟩
  · unfold rvN
    conv => lhs; rw [e]
    rw [show (jnl 0 (rvL (jnl 0 (rvL t) ++ r))).length = (jnl 0 (rvL t)).length from by rw [← e], List.take_left]
  · have : t.length = (jnl 0 (rvL t)).length + r.length := by conv => lhs; rw [e]; rw [List.length_append]
    unfold rvN; omega
/-- What stands before is recovered before. -/
theorem rv_more (a b : List UInt8) : rvN a ≤ rvN (a ++ b) := by
  obtain ⟨m, hm⟩ := lns_app a b
  obtain ⟨m', hm'⟩ := rcv_app m (lns a) 0
  unfold rvN rvL
  rw [hm, hm', jnl_app, List.length_append]; omega
def cnt (t : List UInt8) : Nat := t.count 10
theorem cnt_none {t : List UInt8} (h : ∀ c ∈ t, c ≠ 10) : cnt t = 0 := List.count_eq_zero.2 (fun hm => h 10 hm rfl)
/-- Of a journal that is cut, the lines that end before the cut are recovered. -/
theorem rcv_cut : ∀ (ls : List (List UInt8)) (n : Int) (k : Nat), 0 ≤ n → n ≤ 65002 → (∀ l ∈ ls, ∀ c ∈ l, c ≠ 10) →
    rcv n (lns ((jnl n ls).take k)) = ls.take (cnt ((jnl n ls).take k)) ∧ cnt ((jnl n ls).take k) ≤ ls.length
  | [], n, k, _, _, _ => by simp [jnl, lns, lnsA, rcv, cnt]
  | l :: ls, n, k, h0, h1, h => by
    have hl := h l (List.mem_cons_self ..)
    have he := ent_no10 h0 h1 hl
    have ha := aft_ent h0 h1 l
    have hb := chk_bd n l h0 h1
    show rcv n (lns ((ent n l ++ 10 :: jnl (chk n l) ls).take k)) = _ ∧ _
    have hj : jnl n (l :: ls) = ent n l ++ 10 :: jnl (chk n l) ls := rfl
    rw [hj]
    by_cases hk : k ≤ (ent n l).length
    · rw [List.take_append_of_le_length hk]
      have hn : ∀ c ∈ (ent n l).take k, c ≠ 10 := fun c hc => he c (List.mem_of_mem_take hc)
      rw [lns_none hn, cnt_none hn]
      simp [rcv]
    · obtain ⟨j, rfl⟩ : ∃ j, k = (ent n l).length + (j + 1) := ⟨k - (ent n l).length - 1, by omega⟩
      rw [List.take_length_add_append, List.take_succ_cons, lns_cut _ he, rcv_yes _ (by rw [ha]), ha]
      obtain ⟨i1, i2⟩ := rcv_cut ls (chk n l) j hb.1 hb.2 (fun x hx => h x (List.mem_cons_of_mem _ hx))
      have hc : cnt (ent n l ++ 10 :: (jnl (chk n l) ls).take j) = cnt ((jnl (chk n l) ls).take j) + 1 := by
        unfold cnt
        rw [List.count_append, List.count_eq_zero.2 (fun hm => he 10 hm rfl), List.count_cons]
        simp
      rw [hc, i1]
      refine ⟨?_, by rw [List.length_cons]; omega⟩
      rw [List.take_succ_cons]
theorem rv_cut {ls : List (List UInt8)} (k : Nat) (h : ∀ l ∈ ls, ∀ c ∈ l, c ≠ 10) : rvL ((jnl 0 ls).take k) = ls.take (cnt ((jnl 0 ls).take k)) ∧ cnt ((jnl 0 ls).take k) ≤ ls.length :=
  rcv_cut ls 0 k (by decide) (by decide) h
/-- What JournalOf answers. -/
def noNl (ls : List (List UInt8)) : Bool := ls.all fun l => !l.contains 10
theorem noNl_iff (ls : List (List UInt8)) : noNl ls = true ↔ ∀ l ∈ ls, ∀ c ∈ l, c ≠ 10 := by
  unfold noNl
  rw [List.all_eq_true]
  constructor
  · intro h l hl c hc e
    have := h l hl
    rw [e] at hc
    simp [hc] at this
  · intro h l hl
    have := h l hl
    simp only [Bool.not_eq_true', List.contains_eq_any_beq, List.any_eq_false]
    intro x hx
    have := this x hx
    simpa using fun e => this e.symm
def jnOk (ls : List (List UInt8)) : Bool := noNl ls && decide ((jnl 0 ls).length ≤ 4000)
def jnV (ls : List (List UInt8)) : List UInt8 := if jnOk ls = true then jnl 0 ls else []
theorem jnl_ge : ∀ (ls : List (List UInt8)) (n : Int), 0 ≤ n → n ≤ 65002 → (ls.map fun l => l.length + 3).sum ≤ (jnl n ls).length
  | [], n, _, _ => Nat.le_refl _
  | l :: ls, n, h0, h1 => by
    have hb := chk_bd n l h0 h1
    have h2 := jnl_ge ls (chk n l) hb.1 hb.2
    have h3 := (ent_len h0 h1 l).1
    show l.length + 3 + (ls.map fun l => l.length + 3).sum ≤ (ent n l ++ 10 :: jnl (chk n l) ls).length
    rw [List.length_append, List.length_cons]; omega
theorem jn_none {ls : List (List UInt8)} (h : jnOk ls = false) : jnV ls = [] := by unfold jnV; rw [h]; rfl
theorem jn_some {ls : List (List UInt8)} (h : jnOk ls = true) : jnV ls = jnl 0 ls := by unfold jnV; rw [h]; rfl
theorem jn_long {ls : List (List UInt8)} (h : 4000 < (jnl 0 ls).length) : jnOk ls = false := by unfold jnOk; rw [decide_eq_false (by omega), Bool.and_false]
theorem jn_nl {ls : List (List UInt8)} (h : ∃ l ∈ ls, 10 ∈ l) : jnOk ls = false := by
  obtain ⟨l, h1, h2⟩ := h
  have : noNl ls = false := by
    rw [Bool.eq_false_iff]
    intro e
    exact (noNl_iff ls).1 e l h1 10 h2 rfl
  unfold jnOk; rw [this]; rfl
theorem jn_ok {ls : List (List UInt8)} (h : ∀ l ∈ ls, ∀ c ∈ l, c ≠ 10) (h2 : (jnl 0 ls).length ≤ 4000) : jnOk ls = true := by
  unfold jnOk
  rw [(noNl_iff ls).2 h, decide_eq_true h2]; rfl
theorem rv_ok {t : List UInt8} (h : t.length ≤ 4000) : jnOk (rvL t) = true := jn_ok (rv_no10 t) (by have := (rv_pre t).2; unfold rvN at this; omega)
theorem cut32 (l : List UInt8) : (∀ c ∈ l, c ≠ 32) → aft l = [] := by
  induction l with
  | nil => intro _; rfl
  | cons c l ih =>
    intro h
    unfold aft
    rw [if_neg (h c (List.mem_cons_self ..)), ih (fun x hx => h x (List.mem_cons_of_mem _ hx))]
end Go.Proofs.YtnpigefbdadjfaaDoor
