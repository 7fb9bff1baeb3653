/- Plain facts on the wrong bits behind errors: changes at places against sums of a window. -/
import Derived.Test.YtddlpbpcdjddpaaPlb
import Derived.Test.YtddlpbpcdjddpaaScS
namespace Go.Proofs.Ytddlpbpcdjddpaa
set_option linter.unusedVariables false
open Go Go.RowKit

/-- Whether an error lies at a place, of the first k bits. -/
def eb (g : List UInt8) (k : Nat) (y : Int) : Bool := decide (0 ≤ y ∧ y < (k : Int)) && decide (g.getD y.toNat 0 = 49)
/-- Whether an odd number of the first k bits' changes are at a place. -/
def fB (l : List Int) (g : List UInt8) (k : Nat) (x : Int) : Bool := l.foldl (fun a t => Bool.xor a (eb g k (x - t))) (eb g k x)
theorem eb_succ (g : List UInt8) (k : Nat) (h : k < g.length) (y : Int) : eb g (k + 1) y = Bool.xor (eb g k y) (decide (y = (k : Int)) && decide (g[k] = 49)) := by
  unfold eb
  by_cases e : y = (k : Int)
  · subst e
    rw [decide_eq_true (show (0 : Int) ≤ (k : Int) ∧ (k : Int) < ((k + 1 : Nat) : Int) by omega), decide_eq_false (show ¬ ((0 : Int) ≤ (k : Int) ∧ (k : Int) < (k : Int)) by omega)]
    simp [List.getD, List.getElem?_eq_getElem h]
  · rw [decide_eq_false e]
    by_cases h2 : 0 ≤ y ∧ y < (k : Int)
    · rw [decide_eq_true h2, decide_eq_true (show 0 ≤ y ∧ y < ((k + 1 : Nat) : Int) by omega)]; simp
    · rw [decide_eq_false h2, decide_eq_false (show ¬ (0 ≤ y ∧ y < ((k + 1 : Nat) : Int)) by omega)]; simp
theorem fold_split (p q : Int → Bool) : ∀ (l : List Int) (a b : Bool), l.foldl (fun a t => Bool.xor a (Bool.xor (p t) (q t))) (Bool.xor a b) = Bool.xor (l.foldl (fun a t => Bool.xor a (p t)) a) (l.foldl (fun a t => Bool.xor a (q t)) b)
  | [], a, b => rfl
  | t :: l, a, b => by
    show l.foldl _ (Bool.xor (Bool.xor a b) (Bool.xor (p t) (q t))) = _
    rw [show Bool.xor (Bool.xor a b) (Bool.xor (p t) (q t)) = Bool.xor (Bool.xor a (p t)) (Bool.xor b (q t)) from by cases a <;> cases b <;> cases p t <;> cases q t <;> rfl]
    exact fold_split p q l _ _
theorem fold_none : ∀ (l : List Int) (a : Bool), l.foldl (fun a (_ : Int) => Bool.xor a false) a = a
  | [], a => rfl
  | t :: l, a => by
    show l.foldl _ (Bool.xor a false) = a
    rw [Bool.xor_false]; exact fold_none l a
theorem fB_succ (l : List Int) (g : List UInt8) (k : Nat) (h : k < g.length) (x : Int) :
    fB l g (k + 1) x = Bool.xor (fB l g k x) (l.foldl (fun a t => Bool.xor a (decide (x - t = (k : Int)) && decide (g[k] = 49))) (decide (x = (k : Int)) && decide (g[k] = 49))) := by
  unfold fB
  rw [← fold_split, ← eb_succ g k h x]
  congr 1
  funext a t
  rw [eb_succ g k h]
theorem fB_skip {l : List Int} {g : List UInt8} {k : Nat} (h : k < g.length) (hg : g[k] ≠ 49) : fB l g (k + 1) = fB l g k := by
  funext x
  rw [fB_succ l g k h, decide_eq_false hg]
  simp only [Bool.and_false]
  rw [fold_none]; simp
theorem flipS_at (S : Int → Bool) (y x : Int) : flipS S y x = Bool.xor (S x) (decide (x = y)) := by
  unfold flipS
  by_cases e : x = y
  · subst e; rw [if_pos rfl]; simp
  · rw [if_neg e, decide_eq_false e]; simp
theorem flips_at (x : Int) : ∀ (L : List Int) (S : Int → Bool), (L.foldl flipS S) x = L.foldl (fun a y => Bool.xor a (decide (x = y))) (S x)
  | [], S => rfl
  | y :: L, S => by
    show (L.foldl flipS (flipS S y)) x = L.foldl _ (Bool.xor (S x) (decide (x = y)))
    rw [flips_at x L, flipS_at]
/-- The set within a round: so many taps done. -/
def hK (l : List Int) (g : List UInt8) (k j : Nat) : Int → Bool := ((l.take j).map fun t => (k : Int) + t).foldl flipS (flipS (fB l g k) k)
theorem hK_zero (l : List Int) (g : List UInt8) (k : Nat) : hK l g k 0 = flipS (fB l g k) k := rfl
theorem hK_succ (l : List Int) (g : List UInt8) (k j : Nat) (h : j < l.length) : hK l g k (j + 1) = flipS (hK l g k j) ((k : Int) + l[j]) := by
  unfold hK
  rw [List.take_succ_eq_append_getElem h, List.map_append, List.foldl_append]; rfl
theorem hK_all {l : List Int} {g : List UInt8} {k : Nat} (h : k < g.length) (hg : g[k] = 49) : hK l g k l.length = fB l g (k + 1) := by
  funext x
  unfold hK
  rw [List.take_length, flips_at, fB_succ l g k h, flipS_at, decide_eq_true hg, List.foldl_map]
  simp only [Bool.and_true]
  have := fold_split (fun _ => false) (fun t => decide (x = (k : Int) + t)) l (fB l g k x) (decide (x = (k : Int)))
  rw [fold_none] at this
  rw [← show (l.foldl (fun a t => Bool.xor a (Bool.xor false (decide (x = (k : Int) + t)))) (Bool.xor (fB l g k x) (decide (x = (k : Int))))) = l.foldl (fun a t => Bool.xor a (decide (x = (k : Int) + t))) (Bool.xor (fB l g k x) (decide (x = (k : Int)))) from by simp, this]
  congr 2
  funext a t
  congr 1
  exact decide_eq_decide.2 (by omega)
theorem fB_start (l : List Int) (g : List UInt8) : fB l g 0 = fun _ => false := by
  funext x
  have e : ∀ y, eb g 0 y = false := fun y => by unfold eb; rw [decide_eq_false (by omega)]; rfl
  unfold fB
  simp only [e]
  exact fold_none l false
theorem flips_pos {S : Int → Bool} (h : ∀ x, S x = true → 0 ≤ x) {y : Int} (hy : 0 ≤ y) : ∀ x, flipS S y x = true → 0 ≤ x := by
  intro x hx
  unfold flipS at hx
  by_cases e : x = y
  · omega
  · rw [if_neg e] at hx; exact h x hx
def b2n (b : Bool) : Nat := if b then 1 else 0
theorem b2n_xor (a b : Bool) : b2n a ^^^ b2n b = b2n (Bool.xor a b) := by cases a <;> cases b <;> rfl
theorem smF_b2n (q : List Nat) (f : Int → Bool) : ∀ (l : List Int) (a : Bool), (∀ t ∈ l, bk q t = b2n (f t)) → smF l q (b2n a) = b2n (l.foldl (fun a t => Bool.xor a (f t)) a)
  | [], a, _ => rfl
  | t :: l, a, h => by
    show smF l q (b2n a ^^^ bk q t) = _
    rw [h t (List.mem_cons_self ..), b2n_xor]
    exact smF_b2n q f l _ (fun t ht => h t (List.mem_cons_of_mem _ ht))
theorem smF_shift (q : List Nat) : ∀ (l : List Int) (a b : Nat), smF l q (a ^^^ b) = a ^^^ smF l q b
  | [], a, b => rfl
  | t :: l, a, b => by
    show smF l q ((a ^^^ b) ^^^ bk q t) = a ^^^ smF l q (b ^^^ bk q t)
    rw [Nat.xor_assoc]
    exact smF_shift q l _ _
/-- Descrambling: the sequence is the state and what was given; what is made is a sum of a window. -/
theorem scF_given (l : List Int) (q bs : List Nat) : (scF true l q bs).1 = q ++ bs ∧ (scF true l q bs).2 = (List.range bs.length).map fun i => bs.getD i 0 ^^^ sm l (q ++ bs.take i) := by
  refine snoc_ind (P := fun bs => (scF true l q bs).1 = q ++ bs ∧ (scF true l q bs).2 = (List.range bs.length).map fun i => bs.getD i 0 ^^^ sm l (q ++ bs.take i)) ⟨by simp [scF], by simp [scF]⟩ ?_ bs
  intro bs b ⟨h1, h2⟩
  rw [scF_snoc]
  unfold scG
  refine ⟨by simp [h1], ?_⟩
  show (scF true l q bs).2 ++ [b ^^^ sm l (scF true l q bs).1] = _
  rw [h1, h2, List.length_append, List.length_singleton, List.range_succ, List.map_append]
  congr 1
  · apply List.map_congr_left
    intro i hi
    have hi := List.mem_range.1 hi
    rw [show (bs ++ [b]).getD i 0 = bs.getD i 0 from by rw [List.getD, List.getElem?_append_left hi, ← List.getD], List.take_append_of_le_length (by omega)]
  · simp [List.getD]
theorem gb_one {g : List UInt8} (h : inR 48 49 g = true) (i : Nat) : (gb g).getD i 0 = b2n (decide (g.getD i 0 = 49)) := by
  by_cases hi : i < g.length
  · unfold gb
    rw [List.getD, List.getElem?_map, List.getElem?_eq_getElem hi, List.getD, List.getElem?_eq_getElem hi]
    unfold inR at h
    rw [List.all_eq_true] at h
    have h2 := of_decide_eq_true (h _ (List.getElem_mem hi))
    show g[i].toNat - 48 = b2n (decide (g[i] = 49))
    rcases (show g[i].toNat = 48 ∨ g[i].toNat = 49 by omega) with e | e
    · have : ¬ g[i] = 49 := fun x => by rw [x] at e; exact absurd e (by decide)
      rw [decide_eq_false this, e]; rfl
    · have : g[i] = 49 := UInt8.toNat_inj.1 (by rw [e]; rfl)
      rw [decide_eq_true this, e]; rfl
  · have hg : ¬ i < (gb g).length := by rw [gb_len]; exact hi
    rw [List.getD, List.getElem?_eq_none (by omega), List.getD, List.getElem?_eq_none (by omega)]; rfl
/-- Both ways are one. -/
theorem both_ways {l : List Int} {g : List UInt8} {w : Nat} (hl : ∀ t ∈ l, 1 ≤ t ∧ t ≤ (w : Int)) (hg : inR 48 49 g = true) : tx (scF true l (List.replicate w 0) (gb g)).2 = pbL (fB l g g.length) g.length := by
  rw [(scF_given l _ _).2, gb_len]
  unfold tx pbL
  rw [List.map_map]
  apply List.map_congr_left
  intro i hi
  have hi := List.mem_range.1 hi
  have e1 : (gb g).getD i 0 = b2n (eb g g.length i) := by
    rw [gb_one hg]
    unfold eb
    rw [decide_eq_true (show (0 : Int) ≤ (i : Int) ∧ (i : Int) < (g.length : Int) by omega)]; rfl
  have e2 : ∀ t ∈ l, bk (List.replicate w 0 ++ (gb g).take i) t = b2n (eb g g.length ((i : Int) - t)) := by
    intro t ht
    obtain ⟨h1, h2⟩ := hl t ht
    have hlen : (List.replicate w 0 ++ (gb g).take i).length = w + i := by rw [List.length_append, List.length_replicate, List.length_take, gb_len]; omega
    unfold bk
    rw [hlen, List.getD]
    by_cases hlt : (i : Int) < t
    · rw [List.getElem?_append_left (by rw [List.length_replicate]; omega), List.getElem?_replicate]
      unfold eb
      rw [decide_eq_false (show ¬ (0 ≤ (i : Int) - t ∧ (i : Int) - t < (g.length : Int)) by omega)]
      split <;> rfl
    · rw [List.getElem?_append_right (by rw [List.length_replicate]; omega), List.length_replicate, List.getElem?_take_of_lt (by omega), ← List.getD, gb_one hg]
      unfold eb
      rw [decide_eq_true (show 0 ≤ (i : Int) - t ∧ (i : Int) - t < (g.length : Int) by omega), show w + i - t.toNat - w = ((i : Int) - t).toNat from by omega]; rfl
  have e3 : (gb g).getD i 0 ^^^ sm l (List.replicate w 0 ++ (gb g).take i) = b2n (fB l g g.length i) := by
    unfold sm fB
    rw [← smF_shift, Nat.xor_zero, e1, smF_b2n _ _ l _ e2]
  show UInt8.ofNat (48 + ((gb g).getD i 0 ^^^ sm l (List.replicate w 0 ++ (gb g).take i))) = _
  rw [e3]
  unfold b2n
  cases fB l g g.length i <;> rfl
end Go.Proofs.Ytddlpbpcdjddpaa
