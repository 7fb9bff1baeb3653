/- The laws' r8At, r8Same, r8Long; the draw of stuffers. -/
import Derived.Test.YtijmfienaoeboaaR8b
import Derived.Test.YtijmfienaoeboaaStf
namespace Go.Proofs.Ytijmfienaoeboaa
open Go Go.RowKit
set_option linter.unusedVariables false

theorem r8Long_any (w : World) (A1 A2 : Option Addr) (n1 c1 n2 c2 : Nat) :
    Calls Try.prog 52 #[.slice A1 n1 c1, .slice A2 n2 c2] w fun e w' => e = .returned (.bool (decide (48 < n1) || decide (48 < n2))) ∧ ∃ q, w' = w.drewN q := by
  by_cases h1 : 48 < n1
  · rw [decide_eq_true h1, Bool.true_or]
    have h1' : (48 : Int) < (n1 : Int) := by omega
    go_enter Try.func52, Try.ntmps52
    go_wp2_with fail
    go_ret
    exact ⟨rfl, 0, rfl⟩
  · rw [decide_eq_false h1, Bool.false_or]
    have h1' : ¬ (48 : Int) < (n1 : Int) := by omega
    by_cases h2 : 48 < n2
    · rw [decide_eq_true h2]
      have h2' : (48 : Int) < (n2 : Int) := by omega
      go_enter Try.func52, Try.ntmps52
      go_wp2_with fail
      go_ret
      exact ⟨rfl, 0, rfl⟩
    · rw [decide_eq_false h2]
      have h2' : ¬ (48 : Int) < (n2 : Int) := by omega
      go_enter Try.func52, Try.ntmps52
      go_wp2_with fail
      go_ret
      exact ⟨rfl, 0, rfl⟩

def r8N (l : List Value) (k t : Nat) : Int := match l[k]? with | some (.int _ y) => y % (t : Int) | _ => 0
set_option maxRecDepth 100000 in
theorem r8At_any (w : World) (v : Value) (l : List Value) (k t : Nat) (ht : 2 ≤ t ∧ t ≤ 1000000) {K : Nat → Prop} (h : RdV K w v l) (hb : ∀ x ∈ l, ∃ y : Int, x = .int .u8 y ∧ 0 ≤ y ∧ y ≤ 255) :
    Calls Try.prog 53 #[v, .int .i64 k, .int .i64 t] w fun e w' => e = .returned (.int .i64 (r8N l k t)) ∧ (0 ≤ r8N l k t ∧ r8N l k t < t) ∧ w = w' := by
  have h1 : ¬ (t : Int) ≤ 1 := by omega
  obtain ⟨A, n, c, rfl, hn, -, hx, hr⟩ := h
  have hml : n ≤ 9223372036854775807 := by unfold maxLen at hx; omega
  by_cases hk : k < n
  · obtain ⟨b, o, rfl, -, -, hc⟩ := hr (by omega)
    have hkl : k < l.length := by omega
    obtain ⟨y, hy, y0, y1⟩ := hb _ (List.getElem_mem hkl)
    have hcj := hc k _ (List.getElem?_eq_getElem hkl)
    rw [hy] at hcj
    have HE : Hid (r8N l k t = y % (t : Int)) := by show _ = _; unfold r8N; rw [List.getElem?_eq_getElem hkl, hy]
    have HR : Hid (0 ≤ y % (t : Int) ∧ y % (t : Int) < t) := ⟨Int.emod_nonneg _ (by omega), Int.emod_lt_of_pos _ (by omega)⟩
    have g1 : ¬ (n : Int) ≤ (k : Int) := by omega
    have g2 : (0 : Int) ≤ (k : Int) := by omega
    have g3 : (k : Int) < (n : Int) := by omega
    have g4 : ((t : Int) == 0) = false := by simp; omega
    have g5 : 0 < (t : Int) := by omega
    have wy : IntKind.i64.wrap y = y := IntWalk.i64_in _ (by omega)
    have wz : IntKind.i64.wrap (y % (t : Int)) = y % (t : Int) := IntWalk.i64_in _ (by have := HR.out; omega)
    rw [HE.out]
    clear hc hn hr hb hy hkl hx HE
    go_enter Try.func53, Try.ntmps53
    go_wp2_with fail
    go_ret
    exact ⟨rfl, HR.out, rfl⟩
  · have HE : Hid (r8N l k t = 0) := by show _ = _; unfold r8N; rw [List.getElem?_eq_none (by omega)]
    have g1 : (n : Int) ≤ (k : Int) := by omega
    rw [HE.out]
    clear hr hn hb hx HE
    go_enter Try.func53, Try.ntmps53
    go_wp2_with fail
    go_ret
    exact ⟨rfl, by omega, rfl⟩

end Go.Proofs.Ytijmfienaoeboaa
