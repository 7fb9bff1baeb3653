/- Special bytes, both sides. -/
import Derived.Test.YtjmaapbodacggaaEsa
namespace Go.Proofs.Ytjmaapbodacggaa
open Go Go.RowKit
set_option linter.unusedVariables false

theorem spOk_no {l : List Int} (h : (decide (l.length ≤ 8) && (inc l && byR l)) = false) : spOk l = false := by unfold spOk; rw [h]; rfl
theorem spOk_no125 {l : List Int} (h : l.contains 125 = false) : spOk l = false := by unfold spOk; rw [h]; simp
theorem spOk_x {l : List Int} (h1 : (decide (l.length ≤ 8) && (inc l && byR l)) = true) (h2 : l.contains 125 = true) : spOk l = noX l := by unfold spOk; rw [h1, h2]; rfl
theorem spOk_parts {l : List Int} (h : spOk l = true) : l.length ≤ 8 ∧ byR l = true ∧ l.contains 125 = true ∧ noX l = true := by
  unfold spOk at h
  obtain ⟨h1, h2⟩ := Bool.and_eq_true_iff.1 h
  obtain ⟨h3, h4⟩ := Bool.and_eq_true_iff.1 h1
  obtain ⟨h5, h6⟩ := Bool.and_eq_true_iff.1 h4
  obtain ⟨h7, h8⟩ := Bool.and_eq_true_iff.1 h2
  exact ⟨of_decide_eq_true h3, h6, h7, h8⟩

set_option maxRecDepth 100000 in
set_option maxHeartbeats 1000000 in
theorem l04Special_spec (w : World) (v : Value) (l : List Int) (hb : ∀ n ∈ l, -9223372036854775808 ≤ n ∧ n ≤ 9223372036854775807) (h : Rd w v l) :
    Calls Try.prog 69 #[v] w fun e w' => e = .returned (.bool (spOk l)) ∧ ∃ q, w' = w.drewN q := by
  have hlen := h.len
  have HR := Lib.hid (l00Rises_spec w v l hb h)
  have HV0 := Lib.hid h
  have hS := @spOk_x l
  obtain ⟨A, n, c, rfl, hn, -, -, -⟩ := h
  have hnl : n ≤ 9223372036854775807 := by unfold maxLen at hlen; omega
  have HN := Lib.hid hn
  by_cases h1 : 1 ≤ n ∧ n ≤ 8
  rotate_left
  · have HE : Hid (spOk l = false) := by
      show _ = _
      by_cases h8 : n ≤ 8
      · have : l = [] := List.length_eq_zero_iff.1 (by omega)
        subst this; rfl
      · exact spOk_no (by rw [decide_eq_false (by omega)]; rfl)
    have H1 : Hid (¬ ((1 : Int) ≤ (n : Int) ∧ (n : Int) ≤ 8)) := by show ¬ _; omega
    clear hb hlen hn hS h1
    go_enter Try.func69, Try.ntmps69
    go_wp2_with fail
    refine (l00In_no _ _ _ _ H1.out).mono ?_; rintro e w' ⟨rfl, rfl⟩
    go_wp2_with fail
    go_ret
    exact ⟨ret_bool (by rw [HE.out]), 0, rfl⟩
  obtain ⟨n1, n2⟩ := h1
  have i1 : (1 : Int) ≤ (n : Int) := by omega
  have i2 : (n : Int) ≤ 8 := by omega
  cases h2 : (inc l && byR l)
  · have HE : Hid (spOk l = false) := spOk_no (by rw [h2]; simp)
    rw [h2] at HR
    clear hb hlen hn hS h2
    go_enter Try.func69, Try.ntmps69
    go_wp2_with fail
    refine (l00In_yes _ _ _ _ i1 i2).mono ?_; rintro e w' ⟨rfl, rfl⟩
    go_wp2_with fail
    refine HR.out.mono ?_; rintro e w' ⟨rfl, q, rfl⟩
    go_wp2_with fail
    go_ret
    exact ⟨ret_bool (by rw [HE.out]), q, rfl⟩
  rw [h2] at HR
  cases h3 : l.contains 125
  · have HE : Hid (spOk l = false) := spOk_no125 h3
    have HH : Hid (∀ q, Calls Try.prog 122 #[.slice A n c, .int .i64 125] (w.drewN q) fun e w' => e = .returned (.bool false) ∧ w.drewN q = w') := fun q => by
      have := l00Has_any (w.drewN q) _ l 125 (HV0.out.drewN q)
      rwa [h3] at this
    clear hb hlen hn hS h2 h3
    go_enter Try.func69, Try.ntmps69
    go_wp2_with fail
    refine (l00In_yes _ _ _ _ i1 i2).mono ?_; rintro e w' ⟨rfl, rfl⟩
    go_wp2_with fail
    refine HR.out.mono ?_; rintro e w' ⟨rfl, q, rfl⟩
    go_wp2_with fail
    refine (HH.out _).mono ?_; rintro e w' ⟨rfl, rfl⟩
    go_wp2_with fail
    go_ret
    exact ⟨ret_bool (by rw [HE.out]), q, rfl⟩
  · have HSX := Lib.hid (hS (by rw [decide_eq_true (by omega), h2]; rfl) h3)
    have HH : Hid (∀ q, Calls Try.prog 122 #[.slice A n c, .int .i64 125] (w.drewN q) fun e w' => e = .returned (.bool true) ∧ w.drewN q = w') := fun q => by
      have := l00Has_any (w.drewN q) _ l 125 (HV0.out.drewN q)
      rwa [h3] at this
    clear hb hlen hn hS h2 h3
    go_enter Try.func69, Try.ntmps69
    go_wp2_with fail
    refine (l00In_yes _ _ _ _ i1 i2).mono ?_; rintro e w' ⟨rfl, rfl⟩
    go_wp2_with fail
    refine HR.out.mono ?_; rintro e w' ⟨rfl, q, rfl⟩
    go_wp2_with fail
    refine (HH.out _).mono ?_; rintro e w' ⟨rfl, rfl⟩
    go_wp2_with fail
    obtain ⟨W0, hW0⟩ : ∃ W0, w.drewN q = W0 := ⟨_, rfl⟩
    have HV : Hid (Rd W0 (.slice A n c) l) := by show Rd _ _ _; rw [← hW0]; exact HV0.out.drewN q
    have HW0 : Hid (∃ q, W0 = w.drewN q) := ⟨q, hW0.symm⟩
    rw [hW0]
    clear hW0
    go_loopw [3] (fun i wr => ∃ k : Nat, k ≤ n ∧ i = .int .i64 k ∧ wr = W0 ∧ ∀ j (hj : j < l.length), j < k → l.contains (x32 l[j]) = false) (fun i _ => n - (intOf i).toNat)
    case atStart => exact ⟨0, Nat.zero_le _, rfl, rfl, fun j _ h => by omega⟩
    case round =>
      obtain ⟨k, hk, rfl, rfl, hbe⟩ := hrel
      have HBE := Lib.hid hbe
      clear hbe
      by_cases hlt : k < n
      · have hr := HV.out
        obtain ⟨A', n', c', e', hn', -, -, r⟩ := hr
        injection e' with e1 e2 e3
        subst e1; subst e2; subst e3
        obtain ⟨b, o, rfl, hlt0, hc⟩ := r (by omega)
        have hkl : k < l.length := by have := HN.out; omega
        have hc0 := hc k hkl
        have hk0 : (0 : Int) ≤ (k : Int) := by omega
        have hk1 : (k : Int) < (n : Int) := by omega
        obtain ⟨y, hy⟩ : ∃ y, l[k] = y := ⟨_, rfl⟩
        rw [hy] at hc0
        have HY := Lib.hid hy
        have HHX := l00Has_any _ _ l (bits .xor .i64 y 32) HV.out
        cases hcx : l.contains (x32 y)
        · rw [show l.contains (bits .xor .i64 y 32) = false from hcx] at HHX
          have HH := Lib.hid HHX
          have HC := Lib.hid hcx
          clear hc r hn' hy hcx HHX
          go_wp2_with fail
          refine HH.out.mono ?_; rintro e w' ⟨rfl, rfl⟩
          go_wp2_with fail
          go_roundw
          case rel => exact ⟨k + 1, by omega, by go_num, by first | rfl | trivial, fun j hj hjk => by
            by_cases e : j = k
            · subst e; rw [HY.out]; exact HC.out
            · exact HBE.out j hj (by omega)⟩
          case measure => simp [intOf]; omega
        · have HE : Hid (spOk l = false) := by show _ = _; rw [HSX.out]; exact noX_bad k hkl (by rw [hy]; exact hcx)
          rw [show l.contains (bits .xor .i64 y 32) = true from hcx] at HHX
          have HH := Lib.hid HHX
          clear hc r hn' hy hcx HHX
          go_wp2_with fail
          refine HH.out.mono ?_; rintro e w' ⟨rfl, rfl⟩
          go_wp2_with fail
          go_ret
          exact ⟨ret_bool (by rw [HE.out]), HW0.out⟩
      · have HE : Hid (spOk l = true) := by show _ = _; rw [HSX.out]; exact noX_upto (fun j hj => HBE.out j hj (by have := HN.out; omega))
        go_wp2_with fail
        go_ret
        exact ⟨ret_bool (by rw [HE.out]), HW0.out⟩

set_option maxRecDepth 100000 in
set_option maxHeartbeats 1000000 in
theorem areSpecial_impl (w : World) (v : Value) (l : List Int) (hb : ∀ n ∈ l, -9223372036854775808 ≤ n ∧ n ≤ 9223372036854775807) (h : Rd w v l) :
    Calls Try.prog 72 #[v] w fun e w' => e = .returned (.bool (spOk l)) ∧ ∃ q, w' = w.drewN q := by
  have hlen := h.len
  have HR := Lib.hid (isIncreasing_impl w v l hb h)
  have HB := Lib.hid (fun q => areBytes_impl (w.drewN q) v l 8 (by decide) (h.drewN q))
  have HV0 := Lib.hid h
  have hS := @spOk_x l
  obtain ⟨A, n, c, rfl, hn, -, -, -⟩ := h
  have hnl : n ≤ 9223372036854775807 := by unfold maxLen at hlen; omega
  have HN := Lib.hid hn
  cases h1 : inc l
  · have HE : Hid (spOk l = false) := spOk_no (by rw [h1]; simp)
    rw [h1] at HR
    clear hb hlen hn hS h1
    go_enter Try.func72, Try.ntmps72
    go_wp2_with fail
    refine HR.out.mono ?_; rintro e w' ⟨rfl, q, rfl⟩
    go_wp2_with fail
    go_ret
    exact ⟨ret_bool (by rw [HE.out]), q, rfl⟩
  rw [h1] at HR
  cases h2 : byOk' 8 l
  · have HE : Hid (spOk l = false) := spOk_no (by unfold byOk' at h2; rw [h1, Bool.true_and]; exact h2)
    rw [h2] at HB
    clear hb hlen hn hS h1 h2
    go_enter Try.func72, Try.ntmps72
    go_wp2_with fail
    refine HR.out.mono ?_; rintro e w' ⟨rfl, q, rfl⟩
    go_wp2_with fail
    refine (HB.out _).mono ?_; rintro e w' ⟨rfl, rfl⟩
    go_wp2_with fail
    go_ret
    exact ⟨ret_bool (by rw [HE.out]), q, rfl⟩
  rw [h2] at HB
  cases h3 : l.contains 125
  · have HE : Hid (spOk l = false) := spOk_no125 h3
    have HH : Hid (∀ q, Calls Try.prog 74 #[.slice A n c, .int .i64 125] (w.drewN q) fun e w' => e = .returned (.bool false) ∧ w.drewN q = w') := fun q => by
      have := contains_any (w.drewN q) _ l 125 (HV0.out.drewN q)
      rwa [h3] at this
    clear hb hlen hn hS h1 h2 h3
    go_enter Try.func72, Try.ntmps72
    go_wp2_with fail
    refine HR.out.mono ?_; rintro e w' ⟨rfl, q, rfl⟩
    go_wp2_with fail
    refine (HB.out _).mono ?_; rintro e w' ⟨rfl, rfl⟩
    go_wp2_with fail
    refine (HH.out _).mono ?_; rintro e w' ⟨rfl, rfl⟩
    go_wp2_with fail
    go_ret
    exact ⟨ret_bool (by rw [HE.out]), q, rfl⟩
  · have HSX := Lib.hid (hS (by unfold byOk' at h2; rw [h1, Bool.true_and]; exact h2) h3)
    have HH : Hid (∀ q, Calls Try.prog 74 #[.slice A n c, .int .i64 125] (w.drewN q) fun e w' => e = .returned (.bool true) ∧ w.drewN q = w') := fun q => by
      have := contains_any (w.drewN q) _ l 125 (HV0.out.drewN q)
      rwa [h3] at this
    clear hb hlen hn hS h1 h2 h3
    go_enter Try.func72, Try.ntmps72
    go_wp2_with fail
    refine HR.out.mono ?_; rintro e w' ⟨rfl, q, rfl⟩
    go_wp2_with fail
    refine (HB.out _).mono ?_; rintro e w' ⟨rfl, rfl⟩
    go_wp2_with fail
    refine (HH.out _).mono ?_; rintro e w' ⟨rfl, rfl⟩
    go_wp2_with fail
    obtain ⟨W0, hW0⟩ : ∃ W0, w.drewN q = W0 := ⟨_, rfl⟩
    have HV : Hid (Rd W0 (.slice A n c) l) := by show Rd _ _ _; rw [← hW0]; exact HV0.out.drewN q
    have HW0 : Hid (∃ q, W0 = w.drewN q) := ⟨q, hW0.symm⟩
    rw [hW0]
    clear hW0
    go_loopw [20] (fun i wr => ∃ k : Nat, k ≤ n ∧ i = .int .i64 k ∧ wr = W0 ∧ ∀ j (hj : j < l.length), j < k → l.contains (x32 l[j]) = false) (fun i _ => n - (intOf i).toNat)
    case atStart => exact ⟨0, Nat.zero_le _, rfl, rfl, fun j _ h => by omega⟩
    case round =>
      obtain ⟨k, hk, rfl, rfl, hbe⟩ := hrel
      have HBE := Lib.hid hbe
      clear hbe
      by_cases hlt : k < n
      · have hr := HV.out
        obtain ⟨A', n', c', e', hn', -, -, r⟩ := hr
        injection e' with e1 e2 e3
        subst e1; subst e2; subst e3
        obtain ⟨b, o, rfl, hlt0, hc⟩ := r (by omega)
        have hkl : k < l.length := by have := HN.out; omega
        have hc0 := hc k hkl
        have hk0 : (0 : Int) ≤ (k : Int) := by omega
        have hk1 : (k : Int) < (n : Int) := by omega
        obtain ⟨y, hy⟩ : ∃ y, l[k] = y := ⟨_, rfl⟩
        rw [hy] at hc0
        have HY := Lib.hid hy
        have HHX := contains_any _ _ l (bits .xor .i64 y 32) HV.out
        cases hcx : l.contains (x32 y)
        · rw [show l.contains (bits .xor .i64 y 32) = false from hcx] at HHX
          have HH := Lib.hid HHX
          have HC := Lib.hid hcx
          clear hc r hn' hy hcx HHX
          go_wp2_with fail
          refine HH.out.mono ?_; rintro e w' ⟨rfl, rfl⟩
          go_wp2_with fail
          go_roundw
          case rel => exact ⟨k + 1, by omega, by go_num, by first | rfl | trivial, fun j hj hjk => by
            by_cases e : j = k
            · subst e; rw [HY.out]; exact HC.out
            · exact HBE.out j hj (by omega)⟩
          case measure => simp [intOf]; omega
        · have HE : Hid (spOk l = false) := by show _ = _; rw [HSX.out]; exact noX_bad k hkl (by rw [hy]; exact hcx)
          rw [show l.contains (bits .xor .i64 y 32) = true from hcx] at HHX
          have HH := Lib.hid HHX
          clear hc r hn' hy hcx HHX
          go_wp2_with fail
          refine HH.out.mono ?_; rintro e w' ⟨rfl, rfl⟩
          go_wp2_with fail
          go_ret
          exact ⟨ret_bool (by rw [HE.out]), HW0.out⟩
      · have HE : Hid (spOk l = true) := by show _ = _; rw [HSX.out]; exact noX_upto (fun j hj => HBE.out j hj (by have := HN.out; omega))
        go_wp2_with fail
        go_ret
        exact ⟨ret_bool (by rw [HE.out]), HW0.out⟩
end Go.Proofs.Ytjmaapbodacggaa
