/- Whether two lists of numbers are the same, both sides. -/
import Derived.Test.YtjmaapbodacggaaRd
import Derived.Test.YtjmaapbodacggaaPl
import Derived.Deep.QuietTactic
import Derived.BigQuiet
namespace Go.Proofs.Ytjmaapbodacggaa
open Go Go.RowKit
set_option linter.unusedVariables false

theorem same_ne {a b : List Int} {k : Nat} (h1 : k < a.length) (h2 : k < b.length) (h : a[k] ≠ b[k]) : ¬ a = b := by intro e; subst e; exact h rfl
theorem same_eq {a b : List Int} (hl : a.length = b.length) (h : ∀ k (h1 : k < a.length) (h2 : k < b.length), a[k] = b[k]) : a = b := List.ext_getElem hl (fun i h1 h2 => h i h1 h2)

set_option maxRecDepth 100000 in
set_option maxHeartbeats 1000000 in
theorem l00Same_any (w : World) (v1 v2 : Value) (a b : List Int) (h1 : Rd w v1 a) (h2 : Rd w v2 b) :
    Calls Try.prog 75 #[v1, v2] w fun e w' => e = .returned (.bool (decide (a = b))) ∧ ∃ q, w' = w.drewN q := by
  have hlen := h1.len
  have hlen2 := h2.len
  obtain ⟨A1, n, c1, rfl, hn, -, -, r1⟩ := h1
  obtain ⟨A2, m, c2, rfl, hm, -, -, r2⟩ := h2
  have hnl : n ≤ 9223372036854775807 ∧ m ≤ 9223372036854775807 := by unfold maxLen at hlen hlen2; omega
  have HN := Lib.hid hn
  have HM := Lib.hid hm
  have R1 := Lib.hid r1
  have R2 := Lib.hid r2
  clear hlen hlen2 r1 r2 hn hm
  by_cases he : n = m
  rotate_left
  · have HE : Hid (decide (a = b) = false) := decide_eq_false (fun e => he (by rw [← HN.out, ← HM.out, e]))
    have hne : ((n : Int) != (m : Int)) = true := bne_iff_ne.2 (by omega)
    generalize decide (a = b) = X at *
    go_enter Try.func75, Try.ntmps75
    go_wp2_with fail
    go_ret
    exact ⟨ret_bool HE.out.symm, 0, rfl⟩
  subst he
  have hne : ((n : Int) != (n : Int)) = false := by simp
  have HQ := Lib.hid (@same_eq a b (by rw [HN.out, HM.out]))
  have HD := Lib.hid (fun (k : Nat) (h1 : k < a.length) (h2 : k < b.length) (h : a[k] ≠ b[k]) => decide_eq_false (same_ne h1 h2 h))
  have HT := Lib.hid (fun h => decide_eq_true (HQ.out h))
  generalize hX : decide (a = b) = X at *
  clear hX
  go_enter Try.func75, Try.ntmps75
  go_wp2_with fail
  go_loopw [5] (fun i wr => ∃ k q : Nat, k ≤ n ∧ i = .int .i64 k ∧ wr = w.drewN q ∧ ∀ j (h1 : j < a.length) (h2 : j < b.length), j < k → a[j] = b[j]) (fun i _ => n - (intOf i).toNat)
  case atStart => exact ⟨0, 0, Nat.zero_le _, rfl, rfl, fun j _ _ h => by omega⟩
  case round =>
    obtain ⟨k, q, hk, rfl, rfl, hbe⟩ := hrel
    have HBE := Lib.hid hbe
    clear hbe
    by_cases hlt : k < n
    · obtain ⟨b1, o1, rfl, -, k1⟩ := R1.out (by omega)
      obtain ⟨b2, o2, rfl, -, k2⟩ := R2.out (by omega)
      have hka : k < a.length := by rw [HN.out]; exact hlt
      have hkb : k < b.length := by rw [HM.out]; exact hlt
      have hc1 := k1 k hka
      have hc2 := k2 k hkb
      have hk0 : (0 : Int) ≤ (k : Int) := by omega
      have hk1 : (k : Int) < (n : Int) := by omega
      have HDK := Lib.hid (HD.out k hka hkb)
      obtain ⟨x, hx⟩ : ∃ x, a[k] = x := ⟨_, rfl⟩
      obtain ⟨y, hy⟩ : ∃ y, b[k] = y := ⟨_, rfl⟩
      rw [hx] at hc1
      rw [hy] at hc2
      rw [hx, hy] at HDK
      have HXY := Lib.hid (And.intro hx hy)
      clear k1 k2 hx hy
      by_cases hxy : x = y
      · subst hxy
        go_wp2_with fail
        go_quiet (fail)
        go_wp2_with fail
        go_roundw
        case rel => exact ⟨k + 1, _, by omega, by go_num, rfl, fun j h1 h2 hj => by
          by_cases e : j = k
          · subst e; rw [HXY.out.1, HXY.out.2]
          · exact HBE.out j h1 h2 (by omega)⟩
        case measure => simp [intOf]; omega
      · have HZ := Lib.hid (HDK.out hxy)
        have hq : (x != y) = true := bne_iff_ne.2 hxy
        go_wp2_with fail
        go_quiet (fail)
        go_wp2_with fail
        go_ret
        exact ⟨ret_bool HZ.out.symm, _, World.drewN_drewN _ _ _⟩
    · have HZ := Lib.hid (HT.out (fun j h1 h2 => HBE.out j h1 h2 (by have := HN.out; omega)))
      go_wp2_with fail
      go_ret
      exact ⟨ret_bool HZ.out.symm, _, rfl⟩

set_option maxRecDepth 100000 in
set_option maxHeartbeats 1000000 in
theorem equal_any (w : World) (v1 v2 : Value) (a b : List Int) (h1 : Rd w v1 a) (h2 : Rd w v2 b) :
    Calls Try.prog 86 #[v1, v2] w fun e w' => e = .returned (.bool (decide (a = b))) ∧ ∃ q, w' = w.drewN q := by
  have hlen := h1.len
  have hlen2 := h2.len
  obtain ⟨A1, n, c1, rfl, hn, -, -, r1⟩ := h1
  obtain ⟨A2, m, c2, rfl, hm, -, -, r2⟩ := h2
  have hnl : n ≤ 9223372036854775807 ∧ m ≤ 9223372036854775807 := by unfold maxLen at hlen hlen2; omega
  have HN := Lib.hid hn
  have HM := Lib.hid hm
  have R1 := Lib.hid r1
  have R2 := Lib.hid r2
  clear hlen hlen2 r1 r2 hn hm
  by_cases he : n = m
  rotate_left
  · have HE : Hid (decide (a = b) = false) := decide_eq_false (fun e => he (by rw [← HN.out, ← HM.out, e]))
    have hne : ((n : Int) != (m : Int)) = true := bne_iff_ne.2 (by omega)
    generalize decide (a = b) = X at *
    go_enter Try.func86, Try.ntmps86
    go_wp2_with fail
    go_ret
    exact ⟨ret_bool HE.out.symm, 0, rfl⟩
  subst he
  have hne : ((n : Int) != (n : Int)) = false := by simp
  have HQ := Lib.hid (@same_eq a b (by rw [HN.out, HM.out]))
  have HD := Lib.hid (fun (k : Nat) (h1 : k < a.length) (h2 : k < b.length) (h : a[k] ≠ b[k]) => decide_eq_false (same_ne h1 h2 h))
  have HT := Lib.hid (fun h => decide_eq_true (HQ.out h))
  generalize hX : decide (a = b) = X at *
  clear hX
  go_enter Try.func86, Try.ntmps86
  go_wp2_with fail
  go_loopw [13] (fun i wr => ∃ k q : Nat, k ≤ n ∧ i = .int .i64 k ∧ wr = w.drewN q ∧ ∀ j (h1 : j < a.length) (h2 : j < b.length), j < k → a[j] = b[j]) (fun i _ => n - (intOf i).toNat)
  case atStart => exact ⟨0, 0, Nat.zero_le _, rfl, rfl, fun j _ _ h => by omega⟩
  case round =>
    obtain ⟨k, q, hk, rfl, rfl, hbe⟩ := hrel
    have HBE := Lib.hid hbe
    clear hbe
    by_cases hlt : k < n
    · obtain ⟨b1, o1, rfl, -, k1⟩ := R1.out (by omega)
      obtain ⟨b2, o2, rfl, -, k2⟩ := R2.out (by omega)
      have hka : k < a.length := by rw [HN.out]; exact hlt
      have hkb : k < b.length := by rw [HM.out]; exact hlt
      have hc1 := k1 k hka
      have hc2 := k2 k hkb
      have hk0 : (0 : Int) ≤ (k : Int) := by omega
      have hk1 : (k : Int) < (n : Int) := by omega
      have HDK := Lib.hid (HD.out k hka hkb)
      obtain ⟨x, hx⟩ : ∃ x, a[k] = x := ⟨_, rfl⟩
      obtain ⟨y, hy⟩ : ∃ y, b[k] = y := ⟨_, rfl⟩
      rw [hx] at hc1
      rw [hy] at hc2
      rw [hx, hy] at HDK
      have HXY := Lib.hid (And.intro hx hy)
      clear k1 k2 hx hy
      by_cases hxy : x = y
      · subst hxy
        go_wp2_with fail
        go_quiet (fail)
        go_wp2_with fail
        go_roundw
        case rel => exact ⟨k + 1, _, by omega, by go_num, rfl, fun j h1 h2 hj => by
          by_cases e : j = k
          · subst e; rw [HXY.out.1, HXY.out.2]
          · exact HBE.out j h1 h2 (by omega)⟩
        case measure => simp [intOf]; omega
      · have HZ := Lib.hid (HDK.out hxy)
        have hq : (x != y) = true := bne_iff_ne.2 hxy
        go_wp2_with fail
        go_quiet (fail)
        go_wp2_with fail
        go_ret
        exact ⟨ret_bool HZ.out.symm, _, World.drewN_drewN _ _ _⟩
    · have HZ := Lib.hid (HT.out (fun j h1 h2 => HBE.out j h1 h2 (by have := HN.out; omega)))
      go_wp2_with fail
      go_ret
      exact ⟨ret_bool HZ.out.symm, _, rfl⟩
end Go.Proofs.Ytjmaapbodacggaa
