/- r8At: a number drawn from bytes. -/
import Derived.Test.YtnpigefbdadjfaaDoorSrc
import Derived.Test.YtnpigefbdadjfaaDoorPl
namespace Go.Proofs.YtnpigefbdadjfaaDoor
open Go Go.RowKit
set_option linter.unusedVariables false

def r8N (l : List Value) (k t : Nat) : Int := match l[k]? with | some (.int _ y) => y % (t : Int) | _ => 0
set_option maxRecDepth 100000 in
theorem r8At_any (w : World) (v : Value) (l : List Value) (k t : Nat) (ht : 2 ≤ t ∧ t ≤ 1000000) {K : Nat → Prop} (h : RdV K w v l) (hb : ∀ x ∈ l, ∃ y : Int, x = .int .u8 y ∧ 0 ≤ y ∧ y ≤ 255) :
    Calls Tryd.prog 45 #[v, .int .i64 k, .int .i64 t] w fun e w' => e = .returned (.int .i64 (r8N l k t)) ∧ (0 ≤ r8N l k t ∧ r8N l k t < t) ∧ w = w' := by
  have h1 : ¬ (t : Int) ≤ 1 := by omega
  obtain ⟨A, n, c, rfl, hn, -, hx, hr⟩ := h
  have hml : n ≤ 9223372036854775807 := by unfold maxLen at hx; omega
  by_cases hk : k < n
  · obtain ⟨b, o, rfl, -, -, hc⟩ := hr (by omega)
    have hkl : k < l.length := by omega
    obtain ⟨y, hy, y0, y1⟩ := hb _ (List.getElem_mem hkl)
    have hcj := hc k _ (List.getElem?_eq_getElem hkl)
    rw [hy] at hcj
    have HE : Hid (r8N l k t = y % (t : Int)) := by show _ = _; unfold r8N; rw [List.getElem?_eq_getElem hkl, hy]
    have HR : Hid (0 ≤ y % (t : Int) ∧ y % (t : Int) < t) := ⟨Int.emod_nonneg _ (by omega), Int.emod_lt_of_pos _ (by omega)⟩
    have g1 : ¬ (n : Int) ≤ (k : Int) := by omega
    have g2 : (0 : Int) ≤ (k : Int) := by omega
    have g3 : (k : Int) < (n : Int) := by omega
    have g4 : ((t : Int) == 0) = false := by simp; omega
    have g5 : 0 < (t : Int) := by omega
    have wy : IntKind.i64.wrap y = y := IntWalk.i64_in _ (by omega)
    have wz : IntKind.i64.wrap (y % (t : Int)) = y % (t : Int) := IntWalk.i64_in _ (by have := HR.out; omega)
    rw [HE.out]
    clear hc hn hr hb hy hkl hx HE
    go_enter Tryd.func45, Tryd.ntmps45
    go_wp2_with fail
    go_ret
    exact ⟨rfl, HR.out, rfl⟩
  · have HE : Hid (r8N l k t = 0) := by show _ = _; unfold r8N; rw [List.getElem?_eq_none (by omega)]
    have g1 : (n : Int) ≤ (k : Int) := by omega
    rw [HE.out]
    clear hr hn hb hx HE
    go_enter Tryd.func45, Tryd.ntmps45
    go_wp2_with fail
    go_ret
    exact ⟨rfl, by omega, rfl⟩

theorem r8At_one (w : World) (v : Value) (l : List Value) (k : Nat) {K : Nat → Prop} (h : RdV K w v l) :
    Calls Tryd.prog 45 #[v, .int .i64 k, .int .i64 1] w fun e w' => e = .returned (.int .i64 0) ∧ w = w' := by
  obtain ⟨A, n, c, rfl, -⟩ := h
  go_enter Tryd.func45, Tryd.ntmps45
  go_wp2_with fail
  go_ret
  exact ⟨rfl, rfl⟩
/-- What is drawn lies below its bound. -/
theorem r8At_is (w : World) (v : Value) (l : List Value) (k t : Nat) (ht : 1 ≤ t ∧ t ≤ 1000000) (h : RdV (· < w.heap.size) w v l) (hb : ∀ x ∈ l, ∃ y : Int, x = .int .u8 y ∧ 0 ≤ y ∧ y ≤ 255) :
    ∃ a : Int, (0 ≤ a ∧ a < t) ∧ ∀ W, Below w.heap.size w W → Calls Tryd.prog 45 #[v, .int .i64 (k : Int), .int .i64 (t : Int)] W fun e w' => e = .returned (.int .i64 a) ∧ W = w' := by
  by_cases h1 : t = 1
  · subst h1
    exact ⟨0, by omega, fun W hW => r8At_one W v l k (h.keep hW)⟩
  · have h0 : 0 ≤ r8N l k t ∧ r8N l k t < t := by
      unfold r8N
      split <;> (constructor <;> first | omega | exact Int.emod_nonneg _ (by omega) | exact Int.emod_lt_of_pos _ (by omega))
    exact ⟨r8N l k t, h0, fun W hW => (r8At_any W v l k t (by omega) (h.keep hW) hb).mono fun e w' h => ⟨h.1, h.2.2⟩⟩
end Go.Proofs.YtnpigefbdadjfaaDoor
