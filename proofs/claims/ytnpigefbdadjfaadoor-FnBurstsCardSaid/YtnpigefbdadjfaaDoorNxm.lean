/- The program's nextMask and masksOf: each mask of a length with so many bits 1. -/
import Derived.RangeFuncNested
import Derived.RangeFuncBound
import Derived.RangeFuncCalls
import Derived.RangeFuncLeaves
import Derived.Shelf.Abstract
import Derived.Shelf.RegionOpen
import Derived.WalkKit
import Derived.OwnWalkIn
import Derived.TacticsInMore
import Derived.LoopNIn
import Derived.LoopIn
import Derived.Test.YtnpigefbdadjfaaDoorNxP
import Derived.Test.YtnpigefbdadjfaaDoorDvm
namespace Go.Proofs.YtnpigefbdadjfaaDoor
open Go Go.RowKit Go.Shelf
set_option linter.unusedVariables false
attribute [local go_sem] Oper.semAt_some

/-- A mask of at most 32 bits. -/
abbrev Mk32 := { m : Nat // m < 4294967296 }
abbrev mkEnc (x : Mk32) : Array Value := #[.int .u64 ((x.1 : Nat) : Int)]
/-- How many masks are missed. -/
def cz (p d : Nat) (l : List Mk32) : Nat := (l.filter (fun x => decide (rd p d x.1 = 0))).length
theorem cz_snoc (p d : Nat) (l : List Mk32) (x : Mk32) : cz p d (l ++ [x]) = cz p d l + if rd p d x.1 = 0 then 1 else 0 := by
  unfold cz
  rw [List.filter_append, List.length_append]
  by_cases h : rd p d x.1 = 0
  · rw [if_pos h]; simp [List.filter, h]
  · rw [if_neg h]; simp [List.filter, h]
theorem cz_le (p d : Nat) (l : List Mk32) : cz p d l ≤ l.length := List.length_filter_le _ _
/-- What a round keeps: two blocks. -/
def KpS (S : Nat) (W W' : World) : Prop := S + 1 < W'.heap.size ∧ W'.heap[S]? = W.heap[S]? ∧ W'.heap[S + 1]? = W.heap[S + 1]?
theorem kpS_t {S : Nat} {A B C : World} (h : KpS S A B) (k : KpS S B C) : KpS S A C := ⟨k.1, k.2.1.trans h.2.1, k.2.2.trans h.2.2⟩
theorem kpS_b {S : Nat} {w : World} (hS : S + 1 < w.heap.size) (W : World) (l : Nat) (o o' : Obj) (hl : w.heap.size ≤ l) (h : W.heap[l]? = some o) (h1 : o.isCells = false) (h2 : o.isWalk = false) : KpS S W (W.putObj l o') :=
  ⟨by have := (Array.getElem?_eq_some_iff.1 h).1; simp; omega, World.putObj_heap_other (by omega), World.putObj_heap_other (by omega)⟩
theorem Bk.at_ {W W' : World} {b : Nat} {cs : List Value} (h : Bk W b cs) (e : W'.heap[b]? = W.heap[b]?) (hs : b < W'.heap.size) : Bk W' b cs :=
  ⟨fun i x hx => (World.cell?_of_block (a := ⟨b, i, none⟩) e).trans (h.1 i x hx), fun i hi => (World.frozen?_of_block (a := ⟨b, i, none⟩) e).trans (h.2.1 i hi), hs⟩
theorem shr_zero {m L : Nat} : m / 2 ^ L = 0 ↔ m < 2 ^ L := by
  rw [Nat.div_eq_zero_iff]
  have := Nat.two_pow_pos L
  omega

end Go.Proofs.YtnpigefbdadjfaaDoor
