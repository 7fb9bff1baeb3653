/- The program's differences: how far each two bits of a burst are apart. -/
import Derived.Test.YtnpigefbdadjfaaDoorLst
import Derived.Test.YtnpigefbdadjfaaDoorIlb
import Derived.Laws.EntriesVeiled
namespace Go.Proofs.YtnpigefbdadjfaaDoor
open Go Go.RowKit Go.Shelf
set_option linter.unusedVariables false
attribute [local go_sem] Oper.semAt_some

theorem turned_any (R C : Int) (w : World) :
    Calls Tryd.prog 141 #[.agg #[.int .i64 R, .int .i64 C]] w fun e w' => e = .returned (.agg #[.int .i64 C, .int .i64 R]) ∧ Below w.heap.size w w' := by
  go_enter Tryd.func141, Tryd.ntmps141
  go_wp2_with fail
  simp [bodyPost, results, Tryd.results141, go_sem]
  exact ((Below.refl _ _).alloc (Nat.le_refl _) _).alloc (by simp) _
set_option maxRecDepth 100000 in
theorem differences_any (R C b : Int) (w : World) :
    Calls Tryd.prog 102 #[.agg #[.int .i64 R, .int .i64 C], .int .i64 b] w fun e w' => ∃ c : Nat, e = .returned (.func (.func 142) #[] #[.pointer (some ⟨w.heap.size, 0, none⟩), .pointer (some ⟨w.heap.size + 1, 0, none⟩), .pointer (some ⟨c, 0, none⟩)]) ∧ Below w.heap.size w w' ∧
      Bk w' w.heap.size [.int .i64 R, .int .i64 C] ∧ Bk w' (w.heap.size + 1) [.int .i64 b] ∧ Bk w' c [.func (.func 99) #[.agg #[.int .i64 C, .int .i64 R]] #[]] := by
  have HT := Lib.hid (fun W => turned_any R C W)
  obtain ⟨q0, q1⟩ : ((w.alloc (.cells #[.int .i64 R, .int .i64 C] 128)).alloc (.cells #[.int .i64 b] 2)).cell? ⟨w.heap.size, 0, none⟩ = some (.int .i64 R) ∧ ((w.alloc (.cells #[.int .i64 R, .int .i64 C] 128)).alloc (.cells #[.int .i64 b] 2)).cell? ⟨w.heap.size, 1, none⟩ = some (.int .i64 C) :=
    ⟨((Bk.new w [.int .i64 R, .int .i64 C] 128 _ rfl).alloc _).c 0 _ rfl, ((Bk.new w [.int .i64 R, .int .i64 C] 128 _ rfl).alloc _).c 1 _ rfl⟩
  go_enter Tryd.func102, Tryd.ntmps102
  go_wp2_with fail
  refine (HT.out _).mono ?_; rintro e w2 ⟨rfl, hb2⟩
  have hb0 : Below w.heap.size w ((w.alloc (.cells #[.int .i64 R, .int .i64 C] 128)).alloc (.cells #[.int .i64 b] 2)) := ((Below.refl _ w).alloc (Nat.le_refl _) _).alloc (by simp) _
  have k1 : Bk w2 w.heap.size [.int .i64 R, .int .i64 C] := Bk.keep ((Bk.new w [.int .i64 R, .int .i64 C] 128 _ rfl).alloc _) hb2
  have k2 : Bk w2 (w.heap.size + 1) [.int .i64 b] := Bk.keep (Bk.new (w.alloc (.cells #[.int .i64 R, .int .i64 C] 128)) [.int .i64 b] 2 _ (by simp)) hb2
  have B2 := Lib.hid (hb0.trans (hb2.mono hb0.size))
  have K1 := Lib.hid k1
  have K2 := Lib.hid k2
  clear hb0 hb2 k1 k2 q0 q1
  have hc : ∀ t, (w2.alloc (.cells #[.nilFunc] t)).cell? ⟨w2.heap.size, 0, none⟩ = some .nilFunc := fun t => (Bk.new w2 [.nilFunc] t _ rfl).c 0 _ rfl
  have hf : ∀ t, (w2.alloc (.cells #[.nilFunc] t)).frozen? ⟨w2.heap.size, 0, none⟩ = false := fun t => (Bk.new w2 [.nilFunc] t _ rfl).f 0 (by simp)
  go_wp2_with fail
  go_ret
  exact ⟨_, rfl, B2.out.alloc B2.out.size _, K1.out.alloc _, K2.out.alloc _, Bk.new w2 [.func (.func 99) #[.agg #[.int .i64 C, .int .i64 R]] #[]] _ _ rfl⟩

/-- What has come before the bit at k, and of it those before j. -/
structure DfS (r c b k j : Nat) (pre : List Nat) : Prop where
  of : ∀ x ∈ pre, ∃ i q, i < q ∧ q < r * c ∧ q < i + b ∧ x = dfN (pb c r i) (pb c r q)
  all : ∀ i q, i < q → q < k → q < i + b → dfN (pb c r i) (pb c r q) ∈ pre
  row : ∀ i, i < j → i < k → k < i + b → dfN (pb c r i) (pb c r k) ∈ pre
  len : pre.length ≤ 400 * k + j
theorem DfS.start (r c b : Nat) : DfS r c b 0 0 [] := ⟨fun x h => by simp at h, fun i q _ h => by omega, fun i h => by omega, by simp⟩
theorem DfS.enter {r c b k : Nat} {pre : List Nat} (h : DfS r c b k 0 pre) : DfS r c b k (k + 1 - b) pre := ⟨h.of, h.all, fun i h1 h2 h3 => by omega, by have := h.len; omega⟩
theorem DfS.next {r c b k j : Nat} {pre : List Nat} (h : DfS r c b k j pre) (hj : j < k) (hk : k < r * c) (hb : k < j + b) : DfS r c b k (j + 1) (pre ++ [dfN (pb c r j) (pb c r k)]) :=
  ⟨fun x hx => by
    rcases List.mem_append.1 hx with h' | h'
    · exact h.of x h'
    · exact ⟨j, k, hj, hk, hb, List.mem_singleton.1 h'⟩,
   fun i q h1 h2 h3 => List.mem_append.2 (.inl (h.all i q h1 h2 h3)),
   fun i h1 h2 h3 => by
    by_cases e : i = j
    · subst e; exact List.mem_append.2 (.inr (by simp))
    · exact List.mem_append.2 (.inl (h.row i (by omega) h2 h3)),
   by rw [List.length_append]; have := h.len; simp; omega⟩
theorem DfS.leave {r c b k j : Nat} {pre : List Nat} (h : DfS r c b k j pre) (hj : k ≤ j) (hjb : j ≤ 400) : DfS r c b (k + 1) 0 pre :=
  ⟨h.of, fun i q h1 h2 h3 => by
    by_cases e : q = k
    · subst e; exact h.row i (by omega) h1 h3
    · exact h.all i q h1 (by omega) h3, fun i h1 => by omega, by have := h.len; omega⟩
theorem foldl_min_z : ∀ (l : List Nat) (a : Nat), (l.map (fun (x : Nat) => (x : Int))).foldl min (a : Int) = ((l.foldl min a : Nat) : Int)
  | [], a => rfl
  | y :: l, a => by
    show (l.map _).foldl min (min (a : Int) (y : Int)) = _
    rw [show min (a : Int) (y : Int) = ((min a y : Nat) : Int) by omega]
    exact foldl_min_z l (min a y)
/-- The least of all of them. -/
theorem DfS.least {r c b : Nat} {ys : List Nat} (h : DfS r c b (r * c) 0 ys) (hr : 0 < r) (hb : 2 ≤ b) (h2 : 2 ≤ r * c) : lsV (ys.map (fun (x : Nat) => (x : Int))) = (lapV r c b : Nat) ∧ ys ≠ [] := by
  have hm := h.all 0 1 (by omega) (by omega) (by omega)
  cases ys with
  | nil => cases hm
  | cons y l =>
    refine ⟨?_, by simp⟩
    show (l.map _).foldl min (y : Int) = _
    rw [foldl_min_z]
    congr 1
    obtain ⟨m1, m2, m3⟩ := foldl_min l y
    refine LA.is hr ⟨fun i k a1 a2 a3 => ?_, ?_⟩
    · rcases List.mem_cons.1 (h.all i k a1 a2 a3) with e | e
      · rw [e]; exact m1
      · exact m2 _ e
    · rcases m3 with e | e
      · rw [e]; exact h.of y (by simp)
      · exact h.of _ (by simp [e])
end Go.Proofs.YtnpigefbdadjfaaDoor
