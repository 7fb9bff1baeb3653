/- Spans of a buffer. -/
import Derived.Test.YtcihogbkfpcfjaaBsm
import Derived.Test.YtcihogbkfpcfjaaBui
namespace Go.Proofs.Ytcihogbkfpcfjaa
open Go Go.RowKit
set_option linter.unusedVariables false


theorem Try.infoSpan : (Try.prog.info? 56).map (fun i => (i.zero, i.size, i.bytes)) = some (some (.agg #[.int .i64 0, .int .i64 0]), 2, 16) := by kernel_rfl
/-- The cells of spans, by their times. -/
def spA : Nat → List Int → List Value
  | _, [] => []
  | k, t :: ts => .int .i64 (k : Int) :: .int .i64 t :: spA (k + 1) ts
def spc (ts : List Int) : List Value := spA 0 ts
theorem spA_len : ∀ (k : Nat) (ts : List Int), (spA k ts).length = 2 * ts.length
  | _, [] => rfl
  | k, t :: ts => by simp [spA, spA_len (k + 1) ts]; omega
theorem spA_snoc : ∀ (k : Nat) (ts : List Int) (t : Int), spA k (ts ++ [t]) = spA k ts ++ [.int .i64 ((k + ts.length : Nat) : Int), .int .i64 t]
  | k, [], t => rfl
  | k, x :: ts, t => by
    have := spA_snoc (k + 1) ts t
    simp only [spA, List.cons_append, this, List.length_cons]
    rw [show k + 1 + ts.length = k + (ts.length + 1) from by omega]
theorem spA_at : ∀ (k : Nat) (ts : List Int) (i : Nat), i < ts.length → (spA k ts)[2 * i]? = some (.int .i64 ((k + i : Nat) : Int)) ∧ (spA k ts)[2 * i + 1]? = some (.int .i64 (ts.getD i 0))
  | k, [], i, h => by simp at h
  | k, t :: ts, 0, h => by simp [spA]
  | k, t :: ts, i + 1, h => by
    have := spA_at (k + 1) ts i (by simpa using h)
    rw [show 2 * (i + 1) = 2 * i + 2 from by omega]
    simp only [spA, List.getElem?_cons_succ, List.getD_cons_succ]
    rw [show k + (i + 1) = k + 1 + i from by omega]
    exact this
theorem spc_snoc (ts : List Int) (t : Int) : spc (ts ++ [t]) = spc ts ++ [.int .i64 (ts.length : Int), .int .i64 t] := by
  have := spA_snoc 0 ts t
  rw [Nat.zero_add] at this
  exact this
theorem spc_len (ts : List Int) : (spc ts).length = 2 * ts.length := spA_len 0 ts
theorem spc_at (ts : List Int) (i : Nat) (h : i < ts.length) : (spc ts)[2 * i]? = some (.int .i64 (i : Int)) ∧ (spc ts)[2 * i + 1]? = some (.int .i64 (ts.getD i 0)) := by
  have := spA_at 0 ts i h
  rw [Nat.zero_add] at this
  exact this
/-- The best of the first spans. -/
def bpK (ts : List Int) : Nat → Int × Int
  | 0 => (0, -1)
  | k + 1 => if (bpK ts k).2 < ts.getD k 0 then ((k : Int), ts.getD k 0) else bpK ts k
theorem bpK_bs {a b d : Int} {ts : List Int} : ∀ k, (∀ i : Nat, i < k → btT a b d i 0 = some (ts.getD i 0)) → bsK a b d k = some (bpK ts k)
  | 0, _ => rfl
  | k + 1, h => by
    have ih := bpK_bs k (fun i hi => h i (by omega))
    have h1 := bsK_yes (b := (bpK ts k).1) (l := (bpK ts k).2) ih (h k (by omega))
    rw [h1]
    unfold bpK
    split <;> rfl
theorem bpK_bd (ts : List Int) (h : ∀ i, i < ts.length → 0 ≤ ts.getD i 0 ∧ ts.getD i 0 ≤ 1000000) : ∀ k, k ≤ ts.length → -1 ≤ (bpK ts k).2 ∧ (bpK ts k).2 ≤ 1000000 ∧ 0 ≤ (bpK ts k).1 ∧ (bpK ts k).1 ≤ k
  | 0, _ => by simp [bpK]
  | k + 1, hk => by
    have ih := bpK_bd ts h k (by omega)
    have := h k (by omega)
    unfold bpK
    split
    · simp only; omega
    · omega
def cmpV (x y : Int) : Int := if x < y then -1 else if y < x then 1 else 0
theorem cmpV_lt (x y : Int) : decide (cmpV x y < 0) = decide (x < y) := by
  unfold cmpV; split
  · rename_i h; simp [h]
  · rename_i h; split <;> simp [h]
theorem isNaN_any (x : Int) (w : World) : Calls Try.prog 87 #[.int .i64 x] w fun e w' => e = .returned (.bool false) ∧ w = w' := by
  have h : (x != x) = false := by simp
  go_enter Try.func87, Try.ntmps87
  go_wp2_with fail
  go_ret
  exact ⟨rfl, rfl⟩
theorem compare_any (x y : Int) (w : World) : Calls Try.prog 77 #[.int .i64 x, .int .i64 y] w fun e w' => e = .returned (.int .i64 (cmpV x y)) ∧ w = w' := by
  unfold cmpV
  by_cases h1 : x < y
  · rw [if_pos h1]
    go_enter Try.func77, Try.ntmps77
    go_wp2_with fail
    refine (isNaN_any _ _).mono ?_; rintro e w' ⟨rfl, rfl⟩
    go_wp2_with fail
    refine (isNaN_any _ _).mono ?_; rintro e w' ⟨rfl, rfl⟩
    go_wp2_with fail
    go_ret
    exact ⟨rfl, rfl⟩
  · rw [if_neg h1]
    by_cases h2 : y < x
    · rw [if_pos h2]
      go_enter Try.func77, Try.ntmps77
      go_wp2_with fail
      refine (isNaN_any _ _).mono ?_; rintro e w' ⟨rfl, rfl⟩
      go_wp2_with fail
      refine (isNaN_any _ _).mono ?_; rintro e w' ⟨rfl, rfl⟩
      go_wp2_with fail
      go_ret
      exact ⟨rfl, rfl⟩
    · rw [if_neg h2]
      go_enter Try.func77, Try.ntmps77
      go_wp2_with fail
      refine (isNaN_any _ _).mono ?_; rintro e w' ⟨rfl, rfl⟩
      go_wp2_with fail
      refine (isNaN_any _ _).mono ?_; rintro e w' ⟨rfl, rfl⟩
      go_wp2_with fail
      go_ret
      exact ⟨rfl, rfl⟩
theorem longerFirst_any (i t j u : Int) (w : World) : Calls Try.prog 58 #[.agg #[.int .i64 i, .int .i64 t], .agg #[.int .i64 j, .int .i64 u]] w fun e w' => e = .returned (.int .i64 (cmpV u t)) ∧ Below w.heap.size w w' := by
  have HB : Hid (Below w.heap.size w ((w.alloc (.cells #[.int .i64 i, .int .i64 t] 56)).alloc (.cells #[.int .i64 j, .int .i64 u] 56))) := ((Below.refl _ _).alloc (Nat.le_refl _) _).alloc (by simp) _
  have HC := Lib.hid (fun W => compare_any u t W)
  generalize cmpV u t = V at *
  go_enter Try.func58, Try.ntmps58
  go_wp2_with fail
  refine (HC.out _).mono ?_; rintro e w' ⟨rfl, rfl⟩
  go_wp2_with fail
  go_ret
  exact ⟨rfl, HB.out⟩
end Go.Proofs.Ytcihogbkfpcfjaa
