/- What laws draw from bytes: b10Long, b10At, b10Nums, B10Bits, B10Short. -/
import Derived.Test.YtnpigefbdadjfaaDoorR8b
import Derived.Test.YtnpigefbdadjfaaDoorRd
import Derived.Test.YtnpigefbdadjfaaDoorBits
import Derived.Test.YtnpigefbdadjfaaDoorOwn
namespace Go.Proofs.YtnpigefbdadjfaaDoor
open Go Go.RowKit
set_option linter.unusedVariables false

theorem b10Long_any (w : World) (A1 A2 : Option Addr) (n1 c1 n2 c2 : Nat) :
    Calls Tryd.prog 20 #[.slice A1 n1 c1, .slice A2 n2 c2] w fun e w' => e = .returned (.bool (decide (1048576 < n1) || decide (1048576 < n2))) ∧ ∃ q, w' = w.drewN q := by
  by_cases h1 : 1048576 < n1
  · rw [decide_eq_true h1, Bool.true_or]
    have h1' : (1048576 : Int) < (n1 : Int) := by omega
    go_enter Tryd.func20, Tryd.ntmps20
    go_wp2_with fail
    go_ret
    exact ⟨rfl, 0, rfl⟩
  · rw [decide_eq_false h1, Bool.false_or]
    have h1' : ¬ (1048576 : Int) < (n1 : Int) := by omega
    by_cases h2 : 1048576 < n2
    · rw [decide_eq_true h2]
      have h2' : (1048576 : Int) < (n2 : Int) := by omega
      go_enter Tryd.func20, Tryd.ntmps20
      go_wp2_with fail
      go_ret
      exact ⟨rfl, 0, rfl⟩
    · rw [decide_eq_false h2]
      have h2' : ¬ (1048576 : Int) < (n2 : Int) := by omega
      go_enter Tryd.func20, Tryd.ntmps20
      go_wp2_with fail
      go_ret
      exact ⟨rfl, 0, rfl⟩

def b10N (l : List Value) (k t : Nat) : Int := match l[k]? with | some (.int _ y) => y % (t : Int) | _ => ((k : Int) * 37 + 11) % (t : Int)
set_option maxRecDepth 100000 in
theorem b10At_any (w : World) (v : Value) (l : List Value) (k t : Nat) (ht : 2 ≤ t ∧ t ≤ 1000000) (hk6 : k ≤ 1000000) {K : Nat → Prop} (h : RdV K w v l) (hb : ∀ x ∈ l, ∃ y : Int, x = .int .u8 y ∧ 0 ≤ y ∧ y ≤ 255) :
    Calls Tryd.prog 31 #[v, .int .i64 k, .int .i64 t] w fun e w' => e = .returned (.int .i64 (b10N l k t)) ∧ (0 ≤ b10N l k t ∧ b10N l k t < t) ∧ w = w' := by
  have h1 : ¬ (t : Int) ≤ 1 := by omega
  obtain ⟨A, n, c, rfl, hn, -, hx, hr⟩ := h
  have hml : n ≤ 9223372036854775807 := by unfold maxLen at hx; omega
  by_cases hk : k < n
  · obtain ⟨b, o, rfl, -, -, hc⟩ := hr (by omega)
    have hkl : k < l.length := by omega
    obtain ⟨y, hy, y0, y1⟩ := hb _ (List.getElem_mem hkl)
    have hcj := hc k _ (List.getElem?_eq_getElem hkl)
    rw [hy] at hcj
    have HE : Hid (b10N l k t = y % (t : Int)) := by show _ = _; unfold b10N; rw [List.getElem?_eq_getElem hkl, hy]
    have HR : Hid (0 ≤ y % (t : Int) ∧ y % (t : Int) < t) := ⟨Int.emod_nonneg _ (by omega), Int.emod_lt_of_pos _ (by omega)⟩
    have g1 : ¬ (n : Int) ≤ (k : Int) := by omega
    have g2 : (0 : Int) ≤ (k : Int) := by omega
    have g3 : (k : Int) < (n : Int) := by omega
    have g4 : ((t : Int) == 0) = false := by simp; omega
    have g5 : 0 < (t : Int) := by omega
    have wy : IntKind.i64.wrap y = y := IntWalk.i64_in _ (by omega)
    have wz : IntKind.i64.wrap (y % (t : Int)) = y % (t : Int) := IntWalk.i64_in _ (by have := HR.out; omega)
    rw [HE.out]
    clear hc hn hr hb hy hkl hx HE
    go_enter Tryd.func31, Tryd.ntmps31
    go_wp2_with fail
    go_ret
    exact ⟨rfl, HR.out, rfl⟩
  · have HE : Hid (b10N l k t = ((k : Int) * 37 + 11) % (t : Int)) := by show _ = _; unfold b10N; rw [List.getElem?_eq_none (by omega)]
    have g1 : ¬ (k : Int) < (n : Int) := by omega
    have HR : Hid (0 ≤ ((k : Int) * 37 + 11) % (t : Int) ∧ ((k : Int) * 37 + 11) % (t : Int) < t) := ⟨Int.emod_nonneg _ (by omega), Int.emod_lt_of_pos _ (by omega)⟩
    have g4 : ((t : Int) == 0) = false := by simp; omega
    have g5 : 0 < (t : Int) := by omega
    have w1 : IntKind.i64.wrap ((k : Int) * 37) = (k : Int) * 37 := IntWalk.i64_in _ (by omega)
    have w2 : IntKind.i64.wrap ((k : Int) * 37 + 11) = (k : Int) * 37 + 11 := IntWalk.i64_in _ (by omega)
    have w3 : IntKind.i64.wrap (((k : Int) * 37 + 11) % (t : Int)) = ((k : Int) * 37 + 11) % (t : Int) := IntWalk.i64_in _ (by have := HR.out; omega)
    have g6 : (0 : Int) ≤ (k : Int) * 37 + 11 := by omega
    rw [HE.out]
    clear hr hn hb hx HE
    go_enter Tryd.func31, Tryd.ntmps31
    go_wp2_with fail
    go_ret
    exact ⟨rfl, HR.out, rfl⟩

theorem sameB_ne {a b : List Int} {k : Nat} (h1 : k < a.length) (h2 : k < b.length) (h : a[k] ≠ b[k]) : ¬ a = b := by intro e; subst e; exact h rfl
theorem sameB_eq {a b : List Int} (hl : a.length = b.length) (h : ∀ k (h1 : k < a.length) (h2 : k < b.length), a[k] = b[k]) : a = b := List.ext_getElem hl (fun i h1 h2 => h i h1 h2)
set_option maxRecDepth 100000 in
theorem src_text (B : Nat) (v : Value) (l : List Value) (k n : Nat) (u : Value) (xs : List ByteArray) (W : World) (hn : n ≤ 900000) (hx : 1 ≤ xs.length ∧ xs.length ≤ 1000000) (h : Src B v l k n W) (hu : RdV (· ≠ k) W u (strVals xs)) :
    Calls Tryd.prog 135 #[.pointer (some ⟨k, 0, none⟩), u] W fun e w' => ∃ r : ByteArray, e = .returned (.string r) ∧ r ∈ xs ∧ Src B v l k (n + 2) w' ∧ W.grownBy w' (some k) := by
  have HU := Lib.hid hu
  obtain ⟨A, m, c, rfl, hm, hc, hx2, hr⟩ := hu
  rw [strVals_length] at hm
  have H1 := Lib.hid (src_pick B v l k n m W hn (by omega) h)
  have HM := Lib.hid hm
  clear h hr hm hx2
  have hml : m ≤ 1000000 := by have := HM.out; omega
  go_enter Tryd.func135, Tryd.ntmps135
  go_wp2_with fail
  refine H1.out.mono ?_; rintro e w1 ⟨r, rfl, ⟨r0, r1, -⟩, hs1, hg1⟩
  have S1 := Lib.hid hs1
  have G1 := Lib.hid hg1
  obtain ⟨j, rfl⟩ : ∃ j : Nat, r = (j : Int) := ⟨r.toNat, by omega⟩
  have r2 := r1 (by have := HM.out; omega)
  have hj : j < xs.length := by have := HM.out; omega
  have hu1 := HU.out.same (fun b hb hl => hg1.block b hl (fun e => by injection e with e; exact hb e)) hg1.size
  obtain ⟨A', m', c', e', -, -, -, hr⟩ := hu1
  injection e' with e1 e2 e3
  subst e1; subst e2; subst e3
  obtain ⟨b, o, rfl, -, -, hcell⟩ := hr (by omega)
  have hcj := hcell j _ (strVals_at xs j hj)
  have HE := Lib.hid (List.getElem_mem hj)
  generalize xs[j] = y at *
  clear hs1 hg1 hr hcell r1
  go_wp2_with fail
  go_ret
  exact ⟨_, rfl, HE.out, S1.out, G1.out⟩
theorem rdvS_lit {k : Nat} {W : World} (xs : List ByteArray) (cs : Array Value) (t : TypeId) (hcs : cs = (strVals xs).toArray) (hk : k < W.heap.size) (hx : xs.length ≤ 1000000) : RdV (· ≠ k) (W.alloc (.cells cs t)) (.slice (some ⟨W.heap.size, 0, none⟩) xs.length xs.length) (strVals xs) := by
  subst hcs
  refine ⟨_, _, _, rfl, strVals_length xs, Nat.le_refl _, by unfold maxLen; omega, fun _ => ⟨W.heap.size, 0, rfl, by omega, by simp, fun i x hi => ?_⟩⟩
  rw [Nat.zero_add, World.cell?_alloc_at _ _ _ _ rfl]
  simpa using hi
def shorts : List ByteArray := [⟨#[48]⟩, ⟨#[49]⟩, ⟨#[48, 49]⟩, ⟨#[49, 49]⟩, ⟨#[48, 48, 48]⟩, ⟨#[49, 48, 49]⟩, ⟨#[48, 49, 49, 48]⟩, ⟨#[49, 48]⟩]
theorem shorts_ok : ∀ x ∈ shorts, isB x.data.toList = true ∧ x.data.toList ≠ [] ∧ x.size ≤ 4 := by decide
end Go.Proofs.YtnpigefbdadjfaaDoor
