/- A set of places: what a change does to it. -/
import Derived.Maps.OwnSet
import Derived.Maps.OwnOps
import Derived.Maps.RangeWalk
import Derived.Test.YtddlpbpcdjddpaaBk
import Derived.Test.YtddlpbpcdjddpaaInts
namespace Go.Proofs.Ytddlpbpcdjddpaa
open Go Go.RowKit
open Go.Maps (Keyed int_keyed keyOf_int_mk)
set_option linter.unusedVariables false

theorem law64 : Keyed Try.prog 2 := int_keyed Try.underlying2
/-- A map of places, all of them true: it has those of S. -/
def PS (W : World) (b n : Nat) (S : Int → Bool) : Prop :=
  ∃ D : DataW Unit, W.ownsMap Try.prog 2 (plainElem Try.prog 4) b n D ∧ ∀ x, (Lit.int .i64 x).wf = true → Maps.has D (.int .i64 x) = S x ∧ D.atKey (.int .i64 x) (.lit (.bool false)) = .lit (.bool (S x))
theorem PS.kept {W W' : World} {b n : Nat} {S : Int → Bool} {row : Option Nat} (h : PS W b n S) (hg : W.grownBy W' row) (hne : some b ≠ row) : PS W' b n S := by
  obtain ⟨D, h1, h2⟩ := h
  exact ⟨D, h1.kept hg hne, h2⟩
theorem PS.lt {W : World} {b n : Nat} {S : Int → Bool} (h : PS W b n S) : b < W.heap.size := by
  obtain ⟨D, h1, -⟩ := h
  exact h1.lt
theorem PS.made (W : World) : PS (W.alloc (.map #[] 0)) W.heap.size 0 (fun _ => false) :=
  ⟨.map [], World.ownsMap_made _ _ _ _, fun x _ => ⟨rfl, rfl⟩⟩
/-- One change. -/
def flipS (S : Int → Bool) (x : Int) : Int → Bool := fun y => if y = x then !S x else S y
set_option maxRecDepth 100000 in
theorem bool_elem {v : Value} {z : DataW Unit × List MemPlace} (h : plainElem Try.prog 4 v = some z) : ∃ x, v = .bool x ∧ z.1 = .lit (.bool x) := by
  unfold plainElem at h
  rw [Try.underlying4] at h
  cases v <;> simp at h
  case bool x => exact ⟨x, rfl, by rw [← h]⟩
set_option maxRecDepth 100000 in
theorem ps_look {W : World} {b n : Nat} {S : Int → Bool} (h : PS W b n S) (x : Int) (hx : (Lit.int .i64 x).wf = true) : (Instr.lookup 56 (.map (some b)) (.int .i64 x) false).run Try.prog W = .ok (.bool (S x)) W := by
  obtain ⟨D, h1, h2⟩ := h
  obtain ⟨v, ps, hrun, hv⟩ := h1.lookup law64 Try.underlying56 (z := .bool false) (by first | rfl | kernel_rfl) (plainElem_bool Try.underlying4 false) (keyOf_int_mk Try.underlying2 hx)
  obtain ⟨c, rfl, hc⟩ := bool_elem hv
  rw [hrun]
  have := (h2 x hx).2
  rw [this] at hc
  injection hc with hc
  injection hc with hc
  rw [hc]
theorem lit_ne {x y : Int} (h : y ≠ x) : (Lit.int .i64 y) ≠ .int .i64 x := fun e => h (by injection e)
theorem ps_drop {W : World} {b n : Nat} {S : Int → Bool} (h : PS W b n S) (x : Int) (hx : (Lit.int .i64 x).wf = true) (hs : S x = true) (ty : TypeId) :
    ∃ w', (Builtin.delete_ #[56, 2] ty #[.map (some b), .int .i64 x]).run Try.prog W = .ok (.tuple #[]) w' ∧ PS w' b (n + 1) (flipS S x) ∧ W.grownBy w' (some b) := by
  obtain ⟨D, h1, h2⟩ := h
  obtain ⟨w', hrun, hown, ht⟩ := h1.drop law64 Try.underlying56 (keyOf_int_mk Try.underlying2 hx) ty
  refine ⟨w', hrun, ⟨_, hown.mono (Nat.le_succ n), fun y hy => ?_⟩, ht.grown⟩
  by_cases e : y = x
  · subst e
    refine ⟨by rw [Maps.has_del_same]; simp [flipS, hs], by rw [Maps.atKey_del_same]; simp [flipS, hs]⟩
  · refine ⟨by rw [Maps.has_del_other (lit_ne e), (h2 y hy).1]; simp [flipS, e], by rw [Maps.atKey_del_other (lit_ne e), (h2 y hy).2]; simp [flipS, e]⟩
theorem ps_put {W : World} {b n : Nat} {S : Int → Bool} (h : PS W b n S) (x : Int) (hx : (Lit.int .i64 x).wf = true) (hs : S x = false) (hn : n < maxLen) :
    ∃ w', (Instr.mapUpdate 56 (.map (some b)) (.int .i64 x) (.bool true)).run Try.prog W = .ok () w' ∧ PS w' b (n + 1) (flipS S x) ∧ W.grownBy w' (some b) := by
  obtain ⟨D, h1, h2⟩ := h
  obtain ⟨w', hrun, hown, hg⟩ := h1.update law64 Try.underlying56 hn (keyOf_int_mk Try.underlying2 hx) (plainElem_bool Try.underlying4 true)
  have hm := h1.isMap
  refine ⟨w', hrun, ⟨_, hown, fun y hy => ?_⟩, hg⟩
  by_cases e : y = x
  · subst e
    refine ⟨by rw [Maps.has_put_same hm (law64.key (keyOf_int_mk Try.underlying2 hx))]; simp [flipS, hs], by rw [Maps.atKey_put_same hm (law64.key (keyOf_int_mk Try.underlying2 hx))]; simp [flipS, hs]⟩
  · refine ⟨by rw [Maps.has_put_other (lit_ne e), (h2 y hy).1]; simp [flipS, e], by rw [Maps.atKey_put_other (lit_ne e), (h2 y hy).2]; simp [flipS, e]⟩
theorem wf64 {x : Int} (h : -9223372036854775808 ≤ x ∧ x ≤ 9223372036854775807) : (Lit.int .i64 x).wf = true := by
  simp [Lit.wf]
  exact ⟨h.1, h.2⟩
set_option maxRecDepth 100000 in
set_option maxHeartbeats 1000000 in
theorem change_any (W : World) (b n : Nat) (S : Int → Bool) (x : Int) (h : PS W b n S) (hx : -9223372036854775808 ≤ x ∧ x ≤ 9223372036854775807) (hn : n < maxLen) :
    Calls Try.prog 43 #[.map (some b), .int .i64 x] W fun e w' => e = .returned (.tuple #[]) ∧ PS w' b (n + 1) (flipS S x) ∧ W.grownBy w' (some b) := by
  have hw := wf64 hx
  have hl := ps_look h x hw
  cases hs : S x
  · obtain ⟨w1, hrun, hps, hg⟩ := ps_put h x hw hs hn
    rw [hs] at hl
    have HP := Lib.hid hps
    have HG := Lib.hid hg
    clear h hps hg hs
    go_enter Try.func43, Try.ntmps43
    go_wp2_with fail
    go_end0
    exact ⟨rfl, HP.out, HG.out⟩
  · obtain ⟨w1, hrun, hps, hg⟩ := ps_drop h x hw hs 0
    rw [hs] at hl
    have HP := Lib.hid hps
    have HG := Lib.hid hg
    clear h hps hg hs
    go_enter Try.func43, Try.ntmps43
    go_wp2_with fail
    go_end0
    exact ⟨rfl, HP.out, HG.out⟩
end Go.Proofs.Ytddlpbpcdjddpaa
