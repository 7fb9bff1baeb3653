/- The table of kinds: which wire a kind has; which method an interface's call finds. -/
import Derived.Test.YtmhdjimdhcephaaLvA
namespace Go.Proofs.Ytmhdjimdhcephaa
open Go Go.RowKit
set_option linter.unusedVariables false

def kT (κ : Nat) : TypeId := if κ = 0 then 111 else if κ = 1 then 112 else if κ = 2 then 113 else if κ = 3 then 114 else if κ = 4 then 115 else 116
def kLF (κ : Nat) : FuncId := if κ = 0 then 181 else if κ = 1 then 184 else if κ = 2 then 186 else if κ = 3 then 188 else if κ = 4 then 190 else 192
theorem six {κ : Nat} (h : κ ≤ 5) : κ = 0 ∨ κ = 1 ∨ κ = 2 ∨ κ = 3 ∨ κ = 4 ∨ κ = 5 := by omega
theorem kL_look {κ : Nat} (h : κ ≤ 5) (W : World) : (Go.method 290 (kT κ) (.agg #[]) "loop.example/g01142/impl.levelsOf").run Try.prog W = .ok (kLF κ, .agg #[]) W := by
  rcases six h with rfl | rfl | rfl | rfl | rfl | rfl <;> kernel_rfl
theorem kL_enter {κ : Nat} (h : κ ≤ 5) (args : Array Value) (W : World) : (callFunc (kLF κ) args).run Try.prog W = .ok (.enter (kLF κ) args) W := by
  rcases six h with rfl | rfl | rfl | rfl | rfl | rfl <;> first | kernel_rfl | rfl
theorem kL_of {κ : Nat} (h : κ ≤ 5) : LvOf (kLF κ) κ := by
  rcases six h with rfl | rfl | rfl | rfl | rfl | rfl
  · exact straight_of
  · exact change_of
  · exact halves_of
  · exact halfwise_of
  · exact alternate_of
  · exact three_of
set_option maxHeartbeats 1000000 in
theorem wire_no (kind : Int) (h : kdB kind = false) (w : World) :
    Calls Try.prog 57 #[.int .i64 kind] w fun e w' => e = .returned (.tuple #[.agg #[.nilIface, .int .i64 0, .int .i64 0], .bool false]) ∧ Below w.heap.size w w' := by
  have h1 : ¬ (0 ≤ kind ∧ kind ≤ 5) := of_decide_eq_false h
  have HB := Lib.hid (fun W => btw_no kind 0 5 W h1)
  clear h h1
  go_enter Try.func57, Try.ntmps57
  go_wp2_with fail
  refine (HB.out _).mono ?_; rintro e w' ⟨rfl, rfl⟩
  go_wp2_with fail
  simp [bodyPost, results, Try.results57, go_sem]
  exact ((Below.refl _ _).alloc (Nat.le_refl _) _).alloc (by simp) _
set_option maxHeartbeats 4000000 in
theorem wire_yes {κ : Nat} (h : κ ≤ 5) (w : World) :
    Calls Try.prog 57 #[.int .i64 (κ : Int)] w fun e w' => e = .returned (.tuple #[.agg #[.iface (kT κ) (.agg #[]), .int .i64 (stE κ).1, .int .i64 (stE κ).2], .bool true]) ∧ Below w.heap.size w w' := by
  have HB := Lib.hid (fun W => btw_yes (κ : Int) 0 5 W (by omega) (by omega))
  rcases six h with rfl | rfl | rfl | rfl | rfl | rfl
  all_goals
    clear h
    go_enter Try.func57, Try.ntmps57
    go_wp2_with fail
    refine (HB.out _).mono ?_; rintro e w' ⟨rfl, rfl⟩
    go_wp2_with fail
    simp [bodyPost, results, Try.results57, go_sem, kT, stE]
    exact ((Below.refl _ _).alloc (Nat.le_refl _) _).alloc (by simp) _
end Go.Proofs.Ytmhdjimdhcephaa
