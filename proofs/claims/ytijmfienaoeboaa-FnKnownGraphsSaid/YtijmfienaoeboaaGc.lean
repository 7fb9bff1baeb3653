/- Contracts of the program's isBetween over ints, slices.Max of two numbers, canHave. -/
import Derived.Test.YtijmfienaoeboaaGs
import Derived.Laws.Rows
import Derived.Laws.Tables
import Derived.Laws.CopyRow
import Derived.Laws.CopyOwn
namespace Go.Proofs.Ytijmfienaoeboaa
open Go Go.RowKit
set_option linter.unusedVariables false

theorem btwI_yes (x a b : Int) (w : World) (h1 : a ≤ x) (h2 : x ≤ b) :
    Calls Try.prog 65 #[.int .i64 x, .int .i64 a, .int .i64 b] w fun e w' => e = .returned (.bool true) ∧ w = w' := by
  go_enter Try.func65, Try.ntmps65
  go_wp2
  go_ret
  exact ⟨rfl, rfl⟩
theorem btwI_no (x a b : Int) (w : World) (h : ¬ (a ≤ x ∧ x ≤ b)) :
    Calls Try.prog 65 #[.int .i64 x, .int .i64 a, .int .i64 b] w fun e w' => e = .returned (.bool false) ∧ w = w' := by
  by_cases h1 : a ≤ x
  · have h2 : ¬ x ≤ b := fun e => h ⟨h1, e⟩
    clear h
    go_enter Try.func65, Try.ntmps65
    go_wp2
    go_ret
    exact ⟨rfl, rfl⟩
  · clear h
    go_enter Try.func65, Try.ntmps65
    go_wp2
    go_ret
    exact ⟨rfl, rfl⟩

set_option maxRecDepth 100000 in
theorem max_two (w : World) (b o c : Nat) (x y : Int) (e0 : w.cell? ⟨b, o, none⟩ = some (.int .i64 x)) (e1 : w.cell? ⟨b, o + 1, none⟩ = some (.int .i64 y)) :
    Calls Try.prog 98 #[.slice (some ⟨b, o, none⟩) 2 c] w fun e w' => e = .returned (.int .i64 (if x < y then y else x)) ∧ w = w' := by
  go_enter Try.func98, Try.ntmps98
  go_wp2_with fail
  refine wp_loop_rounds 2 ?_
  rw [rounds_succ]
  go_wp2_with fail
  all_goals
    rw [rounds_succ]
    go_wp2_with fail
    go_ret
    exact ⟨ret_int (by first | rfl | (split <;> omega)), rfl⟩

theorem i64_m1 {x : Int} (h : (Lit.int .i64 x).wf = true) : -9223372036854775808 ≤ x ∧ x ≤ 9223372036854775807 := i64_bdd h

set_option maxHeartbeats 1000000 in
set_option maxRecDepth 100000 in
/-- canHave: whether a row of edges fits a table with n states. -/
theorem canHave_any (w : World) (cs : Array Value) (n : Nat) (u : Value) (row : List Int) (hn1 : 1 ≤ n) (hn2 : n ≤ 12) (hcs : cs[0]? = some (.int .i64 n)) (h : Rd w u row) :
    Calls Try.prog 152 #[.agg cs, u] w fun e w' => e = .returned (.bool (okRow n row)) ∧ Below w.heap.size w w' := by
  have hc : (w.alloc (.cells cs 132)).cell? ⟨w.heap.size, 0, none⟩ = some (.int .i64 n) := by
    rw [World.cell?_alloc_at _ _ _ _ rfl]; exact hcs
  have HBW : Hid (Below w.heap.size w (w.alloc (.cells cs 132))) := (Below.refl _ _).alloc (Nat.le_refl _) _
  have HRD := Lib.hid (h.keep HBW.out)
  by_cases h2 : row.length = 2
  · obtain ⟨b2, o2, c2, rfl, -, e0, e1⟩ := rd_two HRD.out h2
    have HOK : Hid (okRow n row = decide ((-1 ≤ row.getD 0 0 ∧ row.getD 0 0 ≤ (n : Int) - 1) ∧ (-1 ≤ row.getD 1 0 ∧ row.getD 1 0 ≤ (n : Int) - 1) ∧ ¬ (row.getD 0 0 < 0 ∧ row.getD 1 0 < 0))) := by
      show _ = _; unfold okRow; simp [h2]
    clear h h2 HRD
    generalize okRow n row = V at *
    generalize row.getD 0 0 = x at *
    generalize row.getD 1 0 = y at *
    have t1 : IntKind.i64.wrap ((n : Int) - 1) = (n : Int) - 1 := IntWalk.i64_in _ (by omega)
    have t2 : (0 : Int) ≤ (n : Int) - 1 := by omega
    by_cases hx : -1 ≤ x ∧ x ≤ (n : Int) - 1
    · by_cases hy : -1 ≤ y ∧ y ≤ (n : Int) - 1
      · have HV : Hid (V = ((if x < y then y else x) != -1)) := by
          show _ = _
          rw [HOK.out, Bool.eq_iff_iff, decide_eq_true_iff, bne_iff_ne]
          split <;> omega
        obtain ⟨x1, x2⟩ := hx
        obtain ⟨y1, y2⟩ := hy
        go_enter Try.func152, Try.ntmps152
        go_wp2_with fail
        refine wp_loop_rounds 3 ?_
        rw [rounds_succ]
        go_wp2_with fail
        refine (btw_yes _ _ _ _ x1 x2).mono ?_; rintro e w' ⟨rfl, rfl⟩
        go_wp2_with fail
        rw [rounds_succ]
        go_wp2_with fail
        refine (btw_yes _ _ _ _ y1 y2).mono ?_; rintro e w' ⟨rfl, rfl⟩
        go_wp2_with fail
        rw [rounds_succ]
        go_wp2_with fail
        refine (max_two _ _ _ _ _ _ e0 e1).mono ?_; rintro e w' ⟨rfl, rfl⟩
        generalize (if x < y then y else x) = M at *
        go_wp2_with fail
        go_ret
        exact ⟨ret_bool HV.out.symm, HBW.out⟩
      · have HV : Hid (V = false) := by show _ = _; rw [HOK.out]; exact decide_eq_false (fun e => hy e.2.1)
        have HY := Lib.hid hy
        obtain ⟨x1, x2⟩ := hx
        clear hy
        go_enter Try.func152, Try.ntmps152
        go_wp2_with fail
        refine wp_loop_rounds 2 ?_
        rw [rounds_succ]
        go_wp2_with fail
        refine (btw_yes _ _ _ _ x1 x2).mono ?_; rintro e w' ⟨rfl, rfl⟩
        go_wp2_with fail
        rw [rounds_succ]
        go_wp2_with fail
        refine (btw_no _ _ _ _ HY.out).mono ?_; rintro e w' ⟨rfl, rfl⟩
        go_wp2_with fail
        go_ret
        exact ⟨ret_bool HV.out.symm, HBW.out⟩
    · have HV : Hid (V = false) := by show _ = _; rw [HOK.out]; exact decide_eq_false (fun e => hx e.1)
      have HX := Lib.hid hx
      clear hx
      go_enter Try.func152, Try.ntmps152
      go_wp2_with fail
      refine wp_loop_rounds 1 ?_
      rw [rounds_succ]
      go_wp2_with fail
      refine (btw_no _ _ _ _ HX.out).mono ?_; rintro e w' ⟨rfl, rfl⟩
      go_wp2_with fail
      go_ret
      exact ⟨ret_bool HV.out.symm, HBW.out⟩
  · obtain ⟨A2, c2, rfl⟩ := rd_any h
    have HV : Hid (okRow n row = false) := by show _ = _; unfold okRow; exact decide_eq_false (fun e => h2 e.1)
    have hne : ((row.length : Int) != 2) = true := bne_t (by omega)
    clear h HRD
    go_enter Try.func152, Try.ntmps152
    go_wp2_with fail
    go_ret
    exact ⟨ret_bool HV.out.symm, HBW.out⟩
end Go.Proofs.Ytijmfienaoeboaa
