/- What laws draw from bytes: b10Long, b10At, b10Nums, B10Bits, B10Short. -/
import Derived.Test.YtjhgkkecconcaabR8b
import Derived.Test.YtjhgkkecconcaabRd
import Derived.Test.YtjhgkkecconcaabBits
import Derived.Test.YtjhgkkecconcaabOwn
namespace Go.Proofs.Ytjhgkkecconcaab
open Go Go.RowKit
set_option linter.unusedVariables false

theorem b10Long_any (w : World) (A1 A2 : Option Addr) (n1 c1 n2 c2 : Nat) :
    Calls Try.prog 28 #[.slice A1 n1 c1, .slice A2 n2 c2] w fun e w' => e = .returned (.bool (decide (1048576 < n1) || decide (1048576 < n2))) ∧ ∃ q, w' = w.drewN q := by
  by_cases h1 : 1048576 < n1
  · rw [decide_eq_true h1, Bool.true_or]
    have h1' : (1048576 : Int) < (n1 : Int) := by omega
    go_enter Try.func28, Try.ntmps28
    go_wp2_with fail
    go_ret
    exact ⟨rfl, 0, rfl⟩
  · rw [decide_eq_false h1, Bool.false_or]
    have h1' : ¬ (1048576 : Int) < (n1 : Int) := by omega
    by_cases h2 : 1048576 < n2
    · rw [decide_eq_true h2]
      have h2' : (1048576 : Int) < (n2 : Int) := by omega
      go_enter Try.func28, Try.ntmps28
      go_wp2_with fail
      go_ret
      exact ⟨rfl, 0, rfl⟩
    · rw [decide_eq_false h2]
      have h2' : ¬ (1048576 : Int) < (n2 : Int) := by omega
      go_enter Try.func28, Try.ntmps28
      go_wp2_with fail
      go_ret
      exact ⟨rfl, 0, rfl⟩

def b10N (l : List Value) (k t : Nat) : Int := match l[k]? with | some (.int _ y) => y % (t : Int) | _ => ((k : Int) * 37 + 11) % (t : Int)
set_option maxRecDepth 100000 in
theorem b10At_any (w : World) (v : Value) (l : List Value) (k t : Nat) (ht : 2 ≤ t ∧ t ≤ 1000000) (hk6 : k ≤ 1000000) {K : Nat → Prop} (h : RdV K w v l) (hb : ∀ x ∈ l, ∃ y : Int, x = .int .u8 y ∧ 0 ≤ y ∧ y ≤ 255) :
    Calls Try.prog 30 #[v, .int .i64 k, .int .i64 t] w fun e w' => e = .returned (.int .i64 (b10N l k t)) ∧ (0 ≤ b10N l k t ∧ b10N l k t < t) ∧ w = w' := by
  have h1 : ¬ (t : Int) ≤ 1 := by omega
  obtain ⟨A, n, c, rfl, hn, -, hx, hr⟩ := h
  have hml : n ≤ 9223372036854775807 := by unfold maxLen at hx; omega
  by_cases hk : k < n
  · obtain ⟨b, o, rfl, -, -, hc⟩ := hr (by omega)
    have hkl : k < l.length := by omega
    obtain ⟨y, hy, y0, y1⟩ := hb _ (List.getElem_mem hkl)
    have hcj := hc k _ (List.getElem?_eq_getElem hkl)
    rw [hy] at hcj
    have HE : Hid (b10N l k t = y % (t : Int)) := by show _ = _; unfold b10N; rw [List.getElem?_eq_getElem hkl, hy]
    have HR : Hid (0 ≤ y % (t : Int) ∧ y % (t : Int) < t) := ⟨Int.emod_nonneg _ (by omega), Int.emod_lt_of_pos _ (by omega)⟩
    have g1 : ¬ (n : Int) ≤ (k : Int) := by omega
    have g2 : (0 : Int) ≤ (k : Int) := by omega
    have g3 : (k : Int) < (n : Int) := by omega
    have g4 : ((t : Int) == 0) = false := by simp; omega
    have g5 : 0 < (t : Int) := by omega
    have wy : IntKind.i64.wrap y = y := IntWalk.i64_in _ (by omega)
    have wz : IntKind.i64.wrap (y % (t : Int)) = y % (t : Int) := IntWalk.i64_in _ (by have := HR.out; omega)
    rw [HE.out]
    clear hc hn hr hb hy hkl hx HE
    go_enter Try.func30, Try.ntmps30
    go_wp2_with fail
    go_ret
    exact ⟨rfl, HR.out, rfl⟩
  · have HE : Hid (b10N l k t = ((k : Int) * 37 + 11) % (t : Int)) := by show _ = _; unfold b10N; rw [List.getElem?_eq_none (by omega)]
    have g1 : ¬ (k : Int) < (n : Int) := by omega
    have HR : Hid (0 ≤ ((k : Int) * 37 + 11) % (t : Int) ∧ ((k : Int) * 37 + 11) % (t : Int) < t) := ⟨Int.emod_nonneg _ (by omega), Int.emod_lt_of_pos _ (by omega)⟩
    have g4 : ((t : Int) == 0) = false := by simp; omega
    have g5 : 0 < (t : Int) := by omega
    have w1 : IntKind.i64.wrap ((k : Int) * 37) = (k : Int) * 37 := IntWalk.i64_in _ (by omega)
    have w2 : IntKind.i64.wrap ((k : Int) * 37 + 11) = (k : Int) * 37 + 11 := IntWalk.i64_in _ (by omega)
    have w3 : IntKind.i64.wrap (((k : Int) * 37 + 11) % (t : Int)) = ((k : Int) * 37 + 11) % (t : Int) := IntWalk.i64_in _ (by have := HR.out; omega)
    have g6 : (0 : Int) ≤ (k : Int) * 37 + 11 := by omega
    rw [HE.out]
    clear hr hn hb hx HE
    go_enter Try.func30, Try.ntmps30
    go_wp2_with fail
    go_ret
    exact ⟨rfl, HR.out, rfl⟩

theorem sameB_ne {a b : List Int} {k : Nat} (h1 : k < a.length) (h2 : k < b.length) (h : a[k] ≠ b[k]) : ¬ a = b := by intro e; subst e; exact h rfl
theorem sameB_eq {a b : List Int} (hl : a.length = b.length) (h : ∀ k (h1 : k < a.length) (h2 : k < b.length), a[k] = b[k]) : a = b := List.ext_getElem hl (fun i h1 h2 => h i h1 h2)
set_option maxRecDepth 100000 in
set_option maxHeartbeats 1000000 in
theorem b10Nums_any (w : World) (v1 v2 : Value) (a b : List Int) (h1 : Rd w v1 a) (h2 : Rd w v2 b) :
    Calls Try.prog 32 #[v1, v2] w fun e w' => e = .returned (.bool (decide (a = b))) ∧ ∃ q, w' = w.drewN q := by
  have hlen := h1.len
  have hlen2 := h2.len
  obtain ⟨A1, n, c1, rfl, hn, -, -, r1⟩ := h1
  obtain ⟨A2, m, c2, rfl, hm, -, -, r2⟩ := h2
  have hnl : n ≤ 9223372036854775807 ∧ m ≤ 9223372036854775807 := by unfold maxLen at hlen hlen2; omega
  have HN := Lib.hid hn
  have HM := Lib.hid hm
  have R1 := Lib.hid r1
  have R2 := Lib.hid r2
  clear hlen hlen2 r1 r2 hn hm
  by_cases he : n = m
  rotate_left
  · have HE : Hid (decide (a = b) = false) := decide_eq_false (fun e => he (by rw [← HN.out, ← HM.out, e]))
    have hne : ((n : Int) != (m : Int)) = true := bne_iff_ne.2 (by omega)
    generalize decide (a = b) = X at *
    go_enter Try.func32, Try.ntmps32
    go_wp2_with fail
    go_ret
    exact ⟨ret_bool HE.out.symm, 0, rfl⟩
  subst he
  have hne : ((n : Int) != (n : Int)) = false := by simp
  have HQ := Lib.hid (@sameB_eq a b (by rw [HN.out, HM.out]))
  have HD := Lib.hid (fun (k : Nat) (h1 : k < a.length) (h2 : k < b.length) (h : a[k] ≠ b[k]) => decide_eq_false (sameB_ne h1 h2 h))
  have HT := Lib.hid (fun h => decide_eq_true (HQ.out h))
  generalize hX : decide (a = b) = X at *
  clear hX
  go_enter Try.func32, Try.ntmps32
  go_wp2_with fail
  go_loopw [5] (fun i wr => ∃ k q : Nat, k ≤ n ∧ i = .int .i64 k ∧ wr = w.drewN q ∧ ∀ j (h1 : j < a.length) (h2 : j < b.length), j < k → a[j] = b[j]) (fun i _ => n - (intOf i).toNat)
  case atStart => exact ⟨0, 0, Nat.zero_le _, rfl, rfl, fun j _ _ h => by omega⟩
  case round =>
    obtain ⟨k, q, hk, rfl, rfl, hbe⟩ := hrel
    have HBE := Lib.hid hbe
    clear hbe
    by_cases hlt : k < n
    · obtain ⟨b1, o1, rfl, -, k1⟩ := R1.out (by omega)
      obtain ⟨b2, o2, rfl, -, k2⟩ := R2.out (by omega)
      have hka : k < a.length := by rw [HN.out]; exact hlt
      have hkb : k < b.length := by rw [HM.out]; exact hlt
      have hc1 := k1 k hka
      have hc2 := k2 k hkb
      have hk0 : (0 : Int) ≤ (k : Int) := by omega
      have hk1 : (k : Int) < (n : Int) := by omega
      have HDK := Lib.hid (HD.out k hka hkb)
      obtain ⟨x, hx⟩ : ∃ x, a[k] = x := ⟨_, rfl⟩
      obtain ⟨y, hy⟩ : ∃ y, b[k] = y := ⟨_, rfl⟩
      rw [hx] at hc1
      rw [hy] at hc2
      rw [hx, hy] at HDK
      have HXY := Lib.hid (And.intro hx hy)
      clear k1 k2 hx hy
      by_cases hxy : x = y
      · subst hxy
        go_wp2_with fail
        go_quiet (fail)
        go_wp2_with fail
        go_roundw
        case rel => exact ⟨k + 1, _, by omega, by go_num, rfl, fun j h1 h2 hj => by
          by_cases e : j = k
          · subst e; rw [HXY.out.1, HXY.out.2]
          · exact HBE.out j h1 h2 (by omega)⟩
        case measure => simp [intOf]; omega
      · have HZ := Lib.hid (HDK.out hxy)
        have hq : (x != y) = true := bne_iff_ne.2 hxy
        go_wp2_with fail
        go_quiet (fail)
        go_wp2_with fail
        go_ret
        exact ⟨ret_bool HZ.out.symm, _, World.drewN_drewN _ _ _⟩
    · have HZ := Lib.hid (HT.out (fun j h1 h2 => HBE.out j h1 h2 (by have := HN.out; omega)))
      go_wp2_with fail
      go_ret
      exact ⟨ret_bool HZ.out.symm, _, rfl⟩


theorem rdvS_lit {k : Nat} {W : World} (xs : List ByteArray) (cs : Array Value) (t : TypeId) (hcs : cs = (strVals xs).toArray) (hk : k < W.heap.size) (hx : xs.length ≤ 1000000) : RdV (· ≠ k) (W.alloc (.cells cs t)) (.slice (some ⟨W.heap.size, 0, none⟩) xs.length xs.length) (strVals xs) := by
  subst hcs
  refine ⟨_, _, _, rfl, strVals_length xs, Nat.le_refl _, by unfold maxLen; omega, fun _ => ⟨W.heap.size, 0, rfl, by omega, by simp, fun i x hi => ?_⟩⟩
  rw [Nat.zero_add, World.cell?_alloc_at _ _ _ _ rfl]
  simpa using hi
def shorts : List ByteArray := [⟨#[48]⟩, ⟨#[49]⟩, ⟨#[48, 49]⟩, ⟨#[49, 49]⟩, ⟨#[48, 48, 48]⟩, ⟨#[49, 48, 49]⟩, ⟨#[48, 49, 49, 48]⟩, ⟨#[49, 48]⟩]
theorem shorts_ok : ∀ x ∈ shorts, isB x.data.toList = true ∧ x.data.toList ≠ [] ∧ x.size ≤ 4 := by decide
end Go.Proofs.Ytjhgkkecconcaab
