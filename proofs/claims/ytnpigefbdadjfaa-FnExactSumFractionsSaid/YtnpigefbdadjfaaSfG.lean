/- The law's copy of a list of fractions. -/
import Derived.Test.YtnpigefbdadjfaaSfF
import Derived.Test.YtnpigefbdadjfaaMki
namespace Go.Proofs.Ytnpigefbdadjfaa
open Go Go.RowKit
set_option linter.unusedVariables false

theorem made_repF (n : Nat) : madeCells (Value.agg #[.int .i64 0, .int .i64 0]).cells (n * 2) = (List.replicate (n * 2) (Value.int .i64 0)).toArray := by
  show madeCells #[.int .i64 0, .int .i64 0] (n * 2) = _
  unfold madeCells
  apply Array.ext
  · simp
  · intro i h1 h2
    simp
    rcases Nat.mod_two_eq_zero_or_one i with h | h <;> simp [h]
theorem make_frac (n : Nat) (hn : n ≤ 1048576) (W : World) : (Instr.makeSlice 59 (.int .i64 (n : Int)) (.int .i64 (n : Int))).run Try.prog W = .ok (.slice (some ⟨W.heap.size, 0, none⟩) n n) (W.alloc (.cells (List.replicate (n * 2) (Value.int .i64 0)).toArray 56)) := by
  have hinfo : (Try.prog.info? 56).map (fun i => (i.zero, i.size, i.bytes)) = some (some (.agg #[.int .i64 0, .int .i64 0]), 2, 16) := by kernel_rfl
  obtain ⟨i0, hi, hz0, hz1, hz2⟩ := info_parts hinfo
  have h := run_make (P := Try.prog) W 59 56 i0 (.agg #[.int .i64 0, .int .i64 0]) Try.underlying59 hi hz0 .i64 .i64 n n (by omega) (Int.le_refl _) (by rw [hz2]; omega) (by omega)
  rw [hz1, Int.toNat_natCast, made_repF] at h
  exact h
/-- The cells of a list of fractions. -/
def flF : List (Int × Int) → List Value
  | [] => []
  | x :: t => .int .i64 x.1 :: .int .i64 x.2 :: flF t
theorem flF_len : ∀ l, (flF l).length = l.length * 2
  | [] => rfl
  | x :: t => by simp only [flF, List.length_cons, flF_len t]; omega
theorem flF_at : ∀ (l : List (Int × Int)) (i : Nat) (h : i < l.length), (flF l)[i * 2]? = some (.int .i64 l[i].1) ∧ (flF l)[i * 2 + 1]? = some (.int .i64 l[i].2)
  | x :: t, 0, _ => ⟨rfl, rfl⟩
  | x :: t, i + 1, h => by
    have := flF_at t i (by simpa using h)
    rw [show (i + 1) * 2 = i * 2 + 1 + 1 by omega, show i * 2 + 1 + 1 + 1 = (i * 2 + 1) + 1 + 1 by omega]
    simpa [flF] using this
def fpart (l : List (Int × Int)) (n k : Nat) : List Value := flF (l.take k) ++ List.replicate ((n - k) * 2) (Value.int .i64 0)
theorem flF_app : ∀ (a b : List (Int × Int)), flF (a ++ b) = flF a ++ flF b
  | [], b => rfl
  | x :: a, b => by simp [flF, flF_app a b]
theorem fpart_len {l : List (Int × Int)} {n k : Nat} (hl : l.length = n) (hk : k ≤ n) : (fpart l n k).length = n * 2 := by
  unfold fpart
  rw [List.length_append, flF_len, List.length_take, List.length_replicate]; omega
theorem fpart_set {l : List (Int × Int)} {n k : Nat} (hl : l.length = n) (hk : k < n) : ((fpart l n k).set (k * 2) (.int .i64 (l[k]'(by omega)).1)).set (k * 2 + 1) (.int .i64 (l[k]'(by omega)).2) = fpart l n (k + 1) := by
  have e : (flF (l.take k)).length = k * 2 := by rw [flF_len, List.length_take]; omega
  unfold fpart
  rw [List.take_succ_eq_append_getElem (show k < l.length by omega), flF_app, List.append_assoc]
  rw [List.set_append_right _ _ (by omega), List.set_append_right _ _ (by omega), e, Nat.sub_self, show k * 2 + 1 - k * 2 = 1 by omega]
  rw [show (n - k) * 2 = (n - (k + 1)) * 2 + 1 + 1 by omega, List.replicate_succ, List.replicate_succ]
  rfl
end Go.Proofs.Ytnpigefbdadjfaa
