/- The program's block: blockOf, places, placeBehind. -/
import Derived.Test.YtnpigefbdadjfaaDoorIlm
import Derived.Test.YtnpigefbdadjfaaDoorErv
import Derived.Test.YtnpigefbdadjfaaDoorBk
import Derived.RegionTactic
import Derived.BigRegion
namespace Go.Proofs.YtnpigefbdadjfaaDoor
open Go Go.RowKit
set_option linter.unusedVariables false

/-- What blockOf answers. -/
def boV (r c : Int) (a : Addr) : Value := if sdB r c then .tuple #[.agg #[.int .i64 r, .int .i64 c], .nilIface] else .tuple #[.agg #[.int .i64 0, .int .i64 0], .iface 219 (.pointer (some a))]
theorem blockOf_yes (r c : Int) (w : World) (h : sdB r c = true) :
    Calls Tryd.prog 96 #[.int .i64 r, .int .i64 c] w fun e w' => e = .returned (.tuple #[.agg #[.int .i64 r, .int .i64 c], .nilIface]) ∧ Below w.heap.size w w' := by
  obtain ⟨⟨h1, h2⟩, h3, h4⟩ := sd_is h
  clear h
  go_enter Tryd.func96, Tryd.ntmps96
  go_wp2_with fail
  refine (btw_yes _ _ _ _ h1 h2).mono ?_; rintro e w' ⟨rfl, rfl⟩
  go_wp2_with fail
  refine (btw_yes _ _ _ _ h3 h4).mono ?_; rintro e w' ⟨rfl, rfl⟩
  go_wp2_with fail
  simp [bodyPost, results, Tryd.results96, go_sem]
  exact (Below.refl _ _).alloc (Nat.le_refl _) _
theorem blockOf_no (r c : Int) (a : Addr) (w : World) (hv : Ev 0 a w) (h : sdB r c = false) :
    Calls Tryd.prog 96 #[.int .i64 r, .int .i64 c] w fun e w' => e = .returned (.tuple #[.agg #[.int .i64 0, .int .i64 0], .iface 219 (.pointer (some a))]) ∧ Below w.heap.size w w' := by
  have hc : ∀ o, (w.alloc o).cell? ⟨0, 0, none⟩ = some (.iface 219 (.pointer (some a))) := fun o => (hv.keep ((Below.refl _ _).alloc (Nat.le_refl _) o)).cell
  by_cases h1 : 1 ≤ r ∧ r ≤ 20
  · have h2 : ¬ (1 ≤ c ∧ c ≤ 20) := fun e => by unfold sdB at h; rw [decide_eq_true h1, decide_eq_true e] at h; cases h
    have H2 := Lib.hid h2
    obtain ⟨a1, a2⟩ := h1
    clear h h2 hv
    go_enter Tryd.func96, Tryd.ntmps96
    go_wp2_with fail
    refine (btw_yes _ _ _ _ a1 a2).mono ?_; rintro e w' ⟨rfl, rfl⟩
    go_wp2_with fail
    refine (btw_no _ _ _ _ H2.out).mono ?_; rintro e w' ⟨rfl, rfl⟩
    go_wp2_with fail
    go_region
    all_goals
      go_wp2_with fail
      simp [bodyPost, results, Tryd.results96, go_sem]
      exact ((Below.refl _ _).alloc (Nat.le_refl _) _).drew
  · have H1 := Lib.hid h1
    clear h h1 hv
    go_enter Tryd.func96, Tryd.ntmps96
    go_wp2_with fail
    refine (btw_no _ _ _ _ H1.out).mono ?_; rintro e w' ⟨rfl, rfl⟩
    go_wp2_with fail
    go_region
    all_goals
      go_wp2_with fail
      simp [bodyPost, results, Tryd.results96, go_sem]
      exact ((Below.refl _ _).alloc (Nat.le_refl _) _).drew
theorem places_any (R C : Nat) (w : World) (h : R * C ≤ 400) :
    Calls Tryd.prog 97 #[.agg #[.int .i64 R, .int .i64 C]] w fun e w' => e = .returned (.int .i64 ((R * C : Nat) : Int)) ∧ Below w.heap.size w w' := by
  have hw : IntKind.i64.wrap ((R : Int) * (C : Int)) = ((R * C : Nat) : Int) := by rw [Int.natCast_mul]; exact IntWalk.i64_in _ (by rw [← Int.natCast_mul]; omega)
  generalize R * C = M at *
  go_enter Tryd.func97, Tryd.ntmps97
  go_wp2_with fail
  go_ret
  exact ⟨rfl, (Below.refl _ _).alloc (Nat.le_refl _) _⟩
theorem placeB_any (R C i : Nat) (w : World) (hC : 1 ≤ C) (hC2 : C ≤ 20) (hR2 : R ≤ 20) (hi : i < R * C) :
    Calls Tryd.prog 99 #[.agg #[.int .i64 R, .int .i64 C], .int .i64 i] w fun e w' => e = .returned (.int .i64 (pb R C i : Nat)) ∧ Below w.heap.size w w' := by
  have h : R * C ≤ 400 := Nat.mul_le_mul hR2 hC2
  have hp := pb_lt (r := R) (c := C) (i := i) (by omega) hi
  obtain ⟨X, hX⟩ : ∃ X, X = i % C := ⟨_, rfl⟩
  obtain ⟨Y, hY⟩ : ∃ Y, Y = i / C := ⟨_, rfl⟩
  have hpe : pb R C i = X * R + Y := by rw [hX, hY]; rfl
  rw [hpe] at hp ⊢
  have e1 : (i : Int) % (C : Int) = (X : Int) := by rw [hX]; exact (Int.natCast_emod i C).symm
  have e2 : (i : Int) / (C : Int) = (Y : Int) := by rw [hY]; exact (Int.natCast_ediv i C).symm
  have f1 : (i : Int).tmod (C : Int) = (X : Int) := by rw [Int.tmod_eq_emod_of_nonneg (by omega)]; exact e1
  have f2 : (i : Int).tdiv (C : Int) = (Y : Int) := by rw [Int.tdiv_eq_ediv_of_nonneg (by omega)]; exact e2
  have e3 : IntKind.i64.wrap ((X : Int) * (R : Int)) = ((X * R : Nat) : Int) := by rw [Int.natCast_mul]; exact IntWalk.i64_in _ (by rw [← Int.natCast_mul]; omega)
  have e4 : IntKind.i64.wrap (((X * R : Nat) : Int) + (Y : Int)) = ((X * R + Y : Nat) : Int) := by rw [Int.natCast_add]; exact IntWalk.i64_in _ (by omega)
  have e5 : IntKind.i64.wrap (Y : Int) = (Y : Int) := IntWalk.i64_in _ (by omega)
  have hc0 : ((C : Int) == 0) = false := by simpa using (show ¬ C = 0 by omega)
  have hi0 : (0 : Int) ≤ (i : Int) := by omega
  have hC1 : (0 : Int) < (C : Int) := by omega
  generalize X * R = Z at *
  generalize Z + Y = V at *
  clear hX hY hpe hp h hi hC hC2 hR2
  go_enter Tryd.func99, Tryd.ntmps99
  go_wp2_with fail
  go_region
  go_wp2_with fail
  go_ret
  exact ⟨rfl, ((Below.refl _ _).alloc (Nat.le_refl _) _).drew⟩
end Go.Proofs.YtnpigefbdadjfaaDoor
