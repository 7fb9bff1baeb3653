/- Both EscapeBytes. -/
import Derived.Test.YtddlpbpcdjddpaaEsb
namespace Go.Proofs.Ytddlpbpcdjddpaa
open Go Go.RowKit
set_option linter.unusedVariables false

theorem c1_int1 (wr : World) (x : Value) (t : TypeId) : ∀ (j : Nat) (u : Value), [x][j]? = some u → (wr.alloc (.cells #[x] t)).cell? ((⟨wr.heap.size, 0, none⟩ : Addr).add j) = some u := by
  intro j u hj
  match j, hj with
  | 0, hj =>
    simp at hj; subst hj
    rw [show ((⟨wr.heap.size, 0, none⟩ : Addr).add 0) = ⟨wr.heap.size, 0, none⟩ from by simp [Addr.add]]
    rw [World.cell?_alloc_at _ _ _ _ rfl]; rfl
theorem c1_int2 (wr : World) (x y : Value) (t : TypeId) : ∀ (j : Nat) (u : Value), [x, y][j]? = some u → (wr.alloc (.cells #[x, y] t)).cell? ((⟨wr.heap.size, 0, none⟩ : Addr).add j) = some u := by
  intro j u hj
  match j, hj with
  | 0, hj =>
    simp at hj; subst hj
    rw [show ((⟨wr.heap.size, 0, none⟩ : Addr).add 0) = ⟨wr.heap.size, 0, none⟩ from by simp [Addr.add]]
    rw [World.cell?_alloc_at _ _ _ _ rfl]; rfl
  | 1, hj =>
    simp at hj; subst hj
    rw [show ((⟨wr.heap.size, 0, none⟩ : Addr).add 1) = ⟨wr.heap.size, 1, none⟩ from by simp [Addr.add]]
    rw [World.cell?_alloc_at _ _ _ _ rfl]; rfl
  | j + 2, hj => simp at hj
theorem below_int {B base n : Nat} {w wr w1 : World} {e : TypeId} {v : Value} {xs : List Value} {o : Obj} (hb : Below B w wr) (hB : base ≤ wr.heap.size) (hB2 : B ≤ base) (hown : wr.ownsRow base e 1 v n xs) (hg : (wr.alloc o).grownBy w1 v.ownBlock) : Below B w w1 :=
  (hb.alloc (by omega) o).grown hg (by simp; omega) (fun k hk => by have := (hown.lt k hk).1; omega)
theorem intVals_app (l m : List Int) : intVals (l ++ m) = intVals l ++ intVals m := by simp [intVals]
theorem own_of {w : World} {base : Nat} {v : Value} {l : List Int} {n : Nat} {xs : List Value} (h : w.ownsRow base 2 1 v n xs) (h1 : n = l.length) (h2 : xs = intVals l) : Own w base v l := by subst h1; subst h2; exact h

def ebOk (sp l : List Int) : Bool := spOk sp && byOk' 300 l
def ebV (sp l : List Int) : List Int := if ebOk sp l then esF sp l else []
theorem ebV_no {sp l : List Int} (h : ebOk sp l = false) : ebV sp l = [] := by unfold ebV; rw [h]; rfl
theorem ebV_yes {sp l : List Int} (h : ebOk sp l = true) : ebV sp l = esF sp l := by unfold ebV; rw [h]; rfl
theorem ebV_len (sp l : List Int) : (ebV sp l).length ≤ 600 := by
  cases h : ebOk sp l
  · rw [ebV_no h]; simp
  · rw [ebV_yes h]
    unfold ebOk byOk' at h
    obtain ⟨_, h2⟩ := Bool.and_eq_true_iff.1 h
    obtain ⟨h3, _⟩ := Bool.and_eq_true_iff.1 h2
    have h4 := of_decide_eq_true h3
    have := (esF_len sp l).2
    omega
theorem own_none (w : World) (base : Nat) : Own w base (.slice none 0 0) [] := World.ownsRow_nil _ _ _ _

end Go.Proofs.Ytddlpbpcdjddpaa
