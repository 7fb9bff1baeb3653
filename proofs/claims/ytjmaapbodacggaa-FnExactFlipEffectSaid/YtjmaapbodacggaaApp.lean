/- Two rows of numbers that a call fills beside each other. -/
import Derived.Test.YtjmaapbodacggaaRd
import Derived.Deep.AppendLies
namespace Go.Proofs.Ytjmaapbodacggaa
open Go Go.RowKit
set_option linter.unusedVariables false

/-- Two rows of a call's own are apart. -/
def Apart (v u : Value) : Prop := ∀ k, v.ownBlock = some k → u.ownBlock = some k → False
theorem own_nil (w : World) (base : Nat) : Own w base (.slice none 0 0) [] := World.ownsRow_nil _ _ _ _
theorem apart_nil : Apart (.slice none 0 0) (.slice none 0 0) := fun k h _ => by simp [Value.ownBlock] at h
theorem c1_b (wr : World) (x : Value) (t : TypeId) : ∀ (j : Nat) (u : Value), [x][j]? = some u → (wr.alloc (.cells #[x] t)).cell? ((⟨wr.heap.size, 0, none⟩ : Addr).add j) = some u := by
  intro j u hj
  match j, hj with
  | 0, hj =>
    simp at hj; subst hj
    rw [show ((⟨wr.heap.size, 0, none⟩ : Addr).add 0) = ⟨wr.heap.size, 0, none⟩ from by simp [Addr.add]]
    rw [World.cell?_alloc_at _ _ _ _ rfl]; rfl
theorem app_other {wr w1 : World} {base : Nat} {u v : Value} {lu : List Int} {o : Obj} (hu : Own wr base u lu) (ha : Apart u v) (hg : (wr.alloc o).grownBy w1 v.ownBlock) : Own w1 base u lu := by
  refine World.ownsRow.kept (World.ownsRow.alloc hu o) hg ?_
  cases hb : u.ownBlock with
  | none => exact .inl rfl
  | some k => exact .inr fun e => ha k hb e.symm
theorem app_apart {wr : World} {base H g n cap : Nat} {u v : Value} {lu : List Int} (hu : Own wr base u lu) (ha : Apart u v) (hat : v.ownBlock = some g ∨ g = H) (hH : wr.heap.size ≤ H) : Apart u (.slice (some ⟨g, 0, none⟩) n cap) := by
  intro k h1 h2
  simp [Value.ownBlock] at h2
  subst h2
  rcases hat with h | h
  · exact ha g h1 h
  · have := (World.ownsRow.lt hu g h1).2
    omega
theorem Apart.symm {u v : Value} (h : Apart u v) : Apart v u := fun k h1 h2 => h k h2 h1
theorem below_appN {B n : Nat} {w wr w1 : World} {e : TypeId} {v : Value} {xs : List Value} {o : Obj} (hb : Below B w wr) (hB : B ≤ wr.heap.size) (hown : wr.ownsRow B e 1 v n xs) (hg : (wr.alloc o).grownBy w1 v.ownBlock) : Below B w w1 :=
  (hb.alloc hB o).grown hg (by simp; omega) (fun k hk => (hown.lt k hk).1)
theorem own_snocI {w : World} {base : Nat} {v : Value} {l : List Int} {x : Int} (h : w.ownsRow base 2 1 v (l.length + 1) (intVals l ++ [.int .i64 x])) : Own w base v (l ++ [x]) := by
  unfold Own; rw [List.length_append, ← intVals_snoc]; exact h
end Go.Proofs.Ytjmaapbodacggaa
