/- Contracts of the laws' own functions on slices of numbers: eqInt64S, markInt64S, heldInt64S, over rows that a call made. -/
import Derived.Test.YtnpigefbdadjfaaDoorPl
import Derived.Test.YtnpigefbdadjfaaDoorProg
import Derived.OwnWalk
import Derived.WalkSpells
import Derived.WalkSmall
import Derived.Deep.AppendLies
import Derived.Deep.QuietTactic
import Derived.BigQuiet
namespace Go.Proofs.YtnpigefbdadjfaaDoor
open Go Go.RowKit
set_option linter.unusedVariables false

theorem Tryd.infoInt : (Tryd.prog.info? 2).map (fun i => (i.zero, i.size, i.bytes)) = some (some (.int .i64 0), 1, 8) := by kernel_rfl

/-- Numbers as cells. -/
def intVals (l : List Int) : List Value := l.map (Value.int .i64)
theorem intVals_length (l : List Int) : (intVals l).length = l.length := by simp [intVals]
theorem intVals_snoc (l : List Int) (x : Int) : intVals l ++ [.int .i64 x] = intVals (l ++ [x]) := by simp [intVals]
theorem intVals_at (l : List Int) (k : Nat) (h : k < l.length) : (intVals l)[k]? = some (.int .i64 l[k]) := by simp [intVals, h]

/-- A slice of the call's own reads as numbers. -/
def Own (w : World) (base : Nat) (v : Value) (l : List Int) : Prop := w.ownsRow base 2 1 v l.length (intVals l)

theorem own_shape {w : World} {base : Nat} {e : TypeId} {size n : Nat} {v : Value} {xs : List Value} (h : w.ownsRow base e size v n xs) : ∃ A c, v = .slice A n c := by
  rcases h.2 with ⟨rfl, rfl⟩ | ⟨g, cap, cur, rfl, _⟩
  · exact ⟨_, _, rfl⟩
  · exact ⟨_, _, rfl⟩
theorem own_some {w : World} {base : Nat} {e : TypeId} {size n : Nat} {v : Value} {xs : List Value} (h : w.ownsRow base e size v n xs) (hn : 0 < n) : ∃ g c, v = .slice (some ⟨g, 0, none⟩) n c ∧ base ≤ g ∧ g < w.heap.size ∧ n ≤ c ∧ c ≤ maxLen := by
  rcases h.2 with ⟨rfl, rfl⟩ | ⟨g, cap, cur, rfl, hb, hg, hl, hm, _⟩
  · omega
  · refine ⟨g, cap, rfl, hb, ?_, hl, hm⟩
    rcases Nat.lt_or_ge g w.heap.size with h' | h'
    · exact h'
    · rw [Array.getElem?_eq_none h'] at hg; cases hg
theorem own_len {w : World} {base : Nat} {e : TypeId} {size n : Nat} {v : Value} {xs : List Value} (h : w.ownsRow base e size v n xs) : n ≤ maxLen := by
  rcases h.2 with ⟨rfl, rfl⟩ | ⟨g, cap, cur, rfl, hb, hg, hl, hm, _⟩
  · exact Nat.zero_le _
  · omega
/-- A row below a number stays where nothing below it turns. -/
theorem own_below {w w' : World} {base : Nat} {e : TypeId} {size n : Nat} {v : Value} {xs : List Value} (h : w.ownsRow base e size v n xs) (hb : Below w.heap.size w w') : w'.ownsRow base e size v n xs := by
  refine ⟨h.1, ?_⟩
  rcases h.2 with h' | ⟨g, cap, cur, rfl, h1, hg, h2, h3, h4, h5⟩
  · exact .inl h'
  · have hlt : g < w.heap.size := by
      rcases Nat.lt_or_ge g w.heap.size with h' | h'
      · exact h'
      · rw [Array.getElem?_eq_none h'] at hg; cases hg
    exact .inr ⟨g, cap, cur, rfl, h1, by rw [hb.block g hlt]; exact hg, h2, h3, h4, h5⟩
theorem own_drewN {w : World} {base : Nat} {e : TypeId} {size n : Nat} {v : Value} {xs : List Value} (h : w.ownsRow base e size v n xs) (q : Nat) : (w.drewN q).ownsRow base e size v n xs := h
/-- A row below a base stays where another row from that base on is written. -/
theorem own_kept {w w' : World} {base base2 : Nat} {e : TypeId} {size n : Nat} {v v2 : Value} {xs : List Value} (h : w.ownsRow base e size v n xs) (hlt : ∀ k, v.ownBlock = some k → k < base2) (hg : w.grownBy w' v2.ownBlock) (h2 : ∀ k, v2.ownBlock = some k → base2 ≤ k) : w'.ownsRow base e size v n xs := by
  refine h.kept hg ?_
  cases hv : v.ownBlock with
  | none => exact .inl rfl
  | some k =>
    refine .inr fun e' => ?_
    have := hlt k hv
    have := h2 k e'.symm
    omega

/-- The marks k, k + 1, .. -/
def marks (k : Int) (n : Nat) : List Int := (List.range n).map fun j => k + (j : Nat)
theorem marks_length (k : Int) (n : Nat) : (marks k n).length = n := by simp [marks]

def mpart (k : Int) (l : List Int) (j : Nat) : List Value := intVals (marks k j ++ l.drop j)
theorem mpart_zero (k : Int) (l : List Int) : mpart k l 0 = intVals l := by simp [mpart, marks]
theorem mpart_full (k : Int) (l : List Int) : mpart k l l.length = intVals (marks k l.length) := by simp [mpart]
theorem mpart_length (k : Int) (l : List Int) (j : Nat) (h : j ≤ l.length) : (mpart k l j).length = l.length := by simp [mpart, intVals, marks]; omega
theorem mpart_set (k : Int) (l : List Int) (j : Nat) (h : j < l.length) : (mpart k l j).set j (.int .i64 (k + j)) = mpart k l (j + 1) := by
  unfold mpart intVals
  rw [← List.map_set, List.set_append, if_neg (by rw [marks_length]; omega), marks_length, Nat.sub_self]
  congr 1
  rw [show marks k (j + 1) = marks k j ++ [k + (j : Nat)] from by simp [marks, List.range_succ]]
  have e : (l.drop j).set 0 (k + (j : Int)) = (k + (j : Int)) :: l.drop (j + 1) := by rw [List.drop_eq_getElem_cons h]; rfl
  rw [e, List.append_assoc]
  rfl

/-- A mark of a row from a base on keeps what lies below the base. -/
theorem below_mark {B base : Nat} {w wr w1 : World} {n : Nat} {v : Value} {xs : List Value} {e : TypeId} (hb : Below B w wr) (hB : B ≤ base) (hB2 : B ≤ wr.heap.size) (hown : wr.ownsRow base e 1 v n xs) (hg : wr.grownBy w1 v.ownBlock) : Below B w w1 :=
  hb.grown hg hB2 (fun k hk => by have := (hown.lt k hk).1; omega)

end Go.Proofs.YtnpigefbdadjfaaDoor
