/- What both sides ask of lists of numbers. -/
import Derived.Test.YtjhgkkecconcaabRd
import Derived.Test.YtjhgkkecconcaabEsP
import Derived.Test.YtjhgkkecconcaabPos
import Derived.Test.YtjhgkkecconcaabBtw
import Derived.Deep.QuietTactic
import Derived.BigQuiet
namespace Go.Proofs.Ytjhgkkecconcaab
open Go Go.RowKit
set_option linter.unusedVariables false
theorem quiet_at {P : Program} {f : FuncId} {args : Array Value} {w : World} {q n : Nat} {v : Value}
    (h : Calls P f args (w.drewN (q + n)) fun e w' => e = .returned v ∧ w.drewN (q + n) = w') : Calls P f args (w.drewN (q + n)) fun e w'' => e = .returned v ∧ ∃ m, w'' = w.drewN (q + m) :=
  h.mono fun _ _ ⟨he, hm⟩ => ⟨he, n, hm.symm⟩

set_option maxRecDepth 100000 in
set_option maxHeartbeats 1000000 in
theorem index_any (w : World) (v : Value) (l : List Int) (x : Int) (h : Rd w v l) :
    Calls Try.prog 125 #[v, .int .i64 x] w fun e w' => e = .returned (.int .i64 (idxI l x)) ∧ w = w' := by
  have hlen := h.len
  obtain ⟨A, n, c, rfl, hn, -, -, r⟩ := h
  have hnl : n ≤ 9223372036854775807 := by unfold maxLen at hlen; omega
  have HN := Lib.hid hn
  have HR := Lib.hid r
  clear hn r hlen
  go_enter Try.func125, Try.ntmps125
  go_wp2_with fail
  go_loop [8] (fun i => ∃ k : Nat, k ≤ n ∧ i = .int .i64 k ∧ ∀ j (hj : j < l.length), j < k → l[j] ≠ x) (fun i => n - (intOf i).toNat)
  case atStart => exact ⟨0, Nat.zero_le _, rfl, fun j _ h => by omega⟩
  case round =>
    obtain ⟨k, hk, rfl, hbe⟩ := hrel
    have HBE := Lib.hid hbe
    clear hbe
    by_cases hlt : k < n
    · obtain ⟨b, o, rfl, hlt0, hc⟩ := HR.out (by omega)
      have hkl : k < l.length := by have := HN.out; omega
      have hc0 := hc k hkl
      have hk0 : (0 : Int) ≤ (k : Int) := by omega
      have hk1 : (k : Int) < (n : Int) := by omega
      by_cases hx : l[k] = x
      · have HE : Hid (idxI l x = k) := idxI_at hkl hx (fun j hj => HBE.out j (by omega) hj)
        have hq : (x == x) = true := by simp
        rw [hx] at hc0
        clear hc hx
        go_wp2_with fail
        go_ret
        exact ⟨ret_int (by rw [HE.out]), rfl⟩
      · have hq : (x == l[k]) = false := beq_f (fun e => hx e.symm)
        have HX := Lib.hid hx
        clear hc hx
        generalize hy : l[k] = y at *
        have HY := Lib.hid hy
        clear hy
        go_wp2_with fail
        go_round
        case rel => exact ⟨k + 1, by omega, by go_num, fun j hj hjk => by
          by_cases e : j = k
          · subst e; rw [HY.out]; exact HX.out
          · exact HBE.out j hj (by omega)⟩
        case measure => simp [intOf]; omega
    · have HE : Hid (idxI l x = -1) := idxI_none (fun j hj => HBE.out j hj (by have := HN.out; omega))
      go_wp2_with fail
      go_ret
      exact ⟨ret_int (by rw [HE.out]), rfl⟩

theorem contains_any (w : World) (v : Value) (l : List Int) (x : Int) (h : Rd w v l) :
    Calls Try.prog 89 #[v, .int .i64 x] w fun e w' => e = .returned (.bool (l.contains x)) ∧ w = w' := by
  have HI := Lib.hid (index_any w v l x h)
  have HH := Lib.hid (idxI_has l x)
  have hle : idxI l x ≤ 9223372036854775807 ∧ -1 ≤ idxI l x := by
    have h1 := h.len
    unfold maxLen at h1
    have h2 := pos_le x l
    unfold idxI; split <;> omega
  clear h
  generalize idxI l x = y at *
  generalize l.contains x = C at *
  by_cases hy : 0 ≤ y
  · have HC : Hid (C = true) := by show _ = _; rw [HH.out]; exact decide_eq_true hy
    go_enter Try.func89, Try.ntmps89
    go_wp2_with fail
    refine HI.out.mono ?_; rintro e w' ⟨rfl, rfl⟩
    go_wp2_with fail
    go_ret
    exact ⟨ret_bool (by rw [HC.out]), rfl⟩
  · have HC : Hid (C = false) := by show _ = _; rw [HH.out]; exact decide_eq_false hy
    have hyd : decide (0 ≤ y) = false := decide_eq_false hy
    go_enter Try.func89, Try.ntmps89
    go_wp2_with fail
    refine HI.out.mono ?_; rintro e w' ⟨rfl, rfl⟩
    go_wp2_with fail
    go_ret
    exact ⟨ret_bool (by rw [HC.out]), rfl⟩

end Go.Proofs.Ytjhgkkecconcaab
