/- Contracts of l01Runs and of both RunLengths. -/
import Derived.Test.YtddlpbpcdjddpaaInts
import Derived.Test.YtddlpbpcdjddpaaBits
namespace Go.Proofs.Ytddlpbpcdjddpaa
open Go Go.RowKit
set_option linter.unusedVariables false

/-- The lengths of the runs among the first k bytes. -/
def runsK (l : List UInt8) : Nat → List Int
  | 0 => []
  | k + 1 => if k = 0 ∨ l[k]? ≠ l[k - 1]? then runsK l k ++ [1] else (runsK l k).set ((runsK l k).length - 1) ((runsK l k).getD ((runsK l k).length - 1) 0 + 1)
theorem runsK_pos (l : List UInt8) (k : Nat) (h : 0 < k) : 0 < (runsK l k).length := by
  induction k with
  | zero => omega
  | succ k ih =>
    unfold runsK
    split
    · simp
    · rename_i hn
      rw [List.length_set]
      exact ih (by omega)
theorem runsK_le (l : List UInt8) (k : Nat) : (runsK l k).length ≤ k := by
  induction k with
  | zero => simp [runsK]
  | succ k ih =>
    unfold runsK
    split
    · simp; omega
    · rw [List.length_set]; omega
theorem runsK_bd (l : List UInt8) (k : Nat) : ∀ j, 0 ≤ (runsK l k).getD j 0 ∧ (runsK l k).getD j 0 ≤ k := by
  induction k with
  | zero => intro j; simp [runsK]
  | succ k ih =>
    intro j
    unfold runsK
    split
    · have := ih j
      rw [List.getD_eq_getElem?_getD] at this ⊢
      rw [List.getElem?_append]
      split
      · omega
      · by_cases h : j - (runsK l k).length = 0
        · rw [h]; simp; omega
        · rw [List.getElem?_eq_none (by simp; omega)]; simp; omega
    · have h1 := ih j
      have h2 := ih ((runsK l k).length - 1)
      simp only [List.getD_eq_getElem?_getD] at *
      rw [List.getElem?_set]
      split
      · split
        · simp only [Option.getD_some]; omega
        · simp; omega
      · omega
theorem runsK_new (l : List UInt8) (k : Nat) (h : k = 0 ∨ l[k]? ≠ l[k - 1]?) : runsK l (k + 1) = runsK l k ++ [1] := by
  rw [runsK, if_pos h]
theorem runsK_old (l : List UInt8) (k : Nat) (h : ¬ (k = 0 ∨ l[k]? ≠ l[k - 1]?)) : runsK l (k + 1) = (runsK l k).set ((runsK l k).length - 1) ((runsK l k).getD ((runsK l k).length - 1) 0 + 1) := by
  rw [runsK, if_neg h]
/-- The store of 1 behind an append of 0. -/
theorem set_new (xs : List Int) : (intVals xs ++ [Value.int .i64 0]).set xs.length (.int .i64 1) = intVals (xs ++ [1]) := by
  rw [List.set_append, if_neg (by rw [intVals_length]; omega), intVals_length, Nat.sub_self, ← intVals_snoc]; rfl
theorem set_old (xs : List Int) (j : Nat) (x : Int) : (intVals xs).set j (.int .i64 x) = intVals (xs.set j x) := by
  simp [intVals, List.map_set]
theorem below_cons {B n : Nat} {w wr w1 : World} {e : TypeId} {v : Value} {xs : List Value} {o : Obj} (hb : Below B w wr) (hB : B ≤ wr.heap.size) (hown : wr.ownsRow B e 1 v n xs) (hg : (wr.alloc o).grownBy w1 v.ownBlock) : Below B w w1 :=
  (hb.alloc hB o).grown hg (by simp; omega) (fun k hk => (hown.lt k hk).1)

theorem c1_int (wr : World) (x : Value) (t : TypeId) : ∀ (j : Nat) (u : Value), [x][j]? = some u → (wr.alloc (.cells #[x] t)).cell? ((⟨wr.heap.size, 0, none⟩ : Addr).add j) = some u := by
  intro j u hj
  match j, hj with
  | 0, hj =>
    simp at hj; subst hj
    rw [show ((⟨wr.heap.size, 0, none⟩ : Addr).add 0) = ⟨wr.heap.size, 0, none⟩ from by simp [Addr.add]]
    rw [World.cell?_alloc_at _ _ _ _ rfl]; rfl
theorem below_row {B base n : Nat} {w wr w1 : World} {e : TypeId} {v : Value} {xs : List Value} {o : Obj} (hb : Below B w wr) (hB : base ≤ wr.heap.size) (hB2 : B ≤ base) (hown : wr.ownsRow base e 1 v n xs) (hg : (wr.alloc o).grownBy w1 v.ownBlock) : Below B w w1 :=
  (hb.alloc (by omega) o).grown hg (by simp; omega) (fun k hk => by have := (hown.lt k hk).1; omega)
theorem below_dn {B : Nat} {a w : World} (h : Below B a w) (n : Nat) : Below B a (w.drewN n) := below_drewN h n

end Go.Proofs.Ytddlpbpcdjddpaa
