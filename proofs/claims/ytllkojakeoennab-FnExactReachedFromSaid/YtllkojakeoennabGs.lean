/- Contracts of the model's functions on graphs: l02Is, l02State, l02Run; ValidGraph. -/
import Derived.Test.YtllkojakeoennabGr
import Derived.Test.YtllkojakeoennabBtw
import Derived.Deep.RegionHeld3
namespace Go.Proofs.Ytllkojakeoennab
open Go Go.RowKit
set_option linter.unusedVariables false

/-- A row of edges of a graph of n states. -/
def okRow (n : Nat) (r : List Int) : Bool := decide (r.length = 2 ∧ (-1 ≤ r.getD 0 0 ∧ r.getD 0 0 ≤ (n : Int) - 1) ∧ (-1 ≤ r.getD 1 0 ∧ r.getD 1 0 ≤ (n : Int) - 1) ∧ ¬ (r.getD 0 0 < 0 ∧ r.getD 1 0 < 0))
def isG (g : List (List Int)) : Bool := decide (1 ≤ g.length ∧ g.length ≤ 12) && g.all (okRow g.length)
theorem isG_bad (g : List (List Int)) (k : Nat) (h : k < g.length) (hb : okRow g.length g[k] = false) : isG g = false := by
  unfold isG
  have : g.all (okRow g.length) = false := by
    rw [List.all_eq_false]
    exact ⟨g[k], List.getElem_mem h, by rw [hb]; decide⟩
  rw [this]; simp
theorem isG_len (g : List (List Int)) (h : ¬ (1 ≤ g.length ∧ g.length ≤ 12)) : isG g = false := by
  unfold isG; rw [decide_eq_false h]; rfl
theorem isG_all (g : List (List Int)) (h : 1 ≤ g.length ∧ g.length ≤ 12) (ha : g.all (okRow g.length) = true) : isG g = true := by
  unfold isG; rw [decide_eq_true h, ha]; rfl
theorem all_snoc {g : List (List Int)} {k n : Nat} (h : k < g.length) (ha : (g.take k).all (okRow n) = true) (hr : okRow n g[k] = true) : (g.take (k + 1)).all (okRow n) = true := by
  rw [List.take_succ_eq_append_getElem h, List.all_append, ha, Bool.true_and]
  simp [hr]
/-- A slice of two numbers. -/
theorem rd_two {w : World} {v : Value} {l : List Int} (h : Rd w v l) (hl : l.length = 2) : ∃ b o c, v = .slice (some ⟨b, o, none⟩) 2 c ∧ b < w.heap.size ∧ w.cell? ⟨b, o, none⟩ = some (.int .i64 (l.getD 0 0)) ∧ w.cell? ⟨b, o + 1, none⟩ = some (.int .i64 (l.getD 1 0)) := by
  obtain ⟨A, n, c, rfl, hn, -, -, r⟩ := h
  obtain rfl : n = 2 := by omega
  obtain ⟨b, o, rfl, hlt, hc⟩ := r (by omega)
  refine ⟨b, o, c, rfl, hlt, ?_, ?_⟩
  · have := hc 0 (by omega); simpa [List.getD, List.getElem?_eq_getElem (show 0 < l.length by omega)] using this
  · have := hc 1 (by omega); simpa [List.getD, List.getElem?_eq_getElem (show 1 < l.length by omega)] using this
theorem rd_any {w : World} {v : Value} {l : List Int} (h : Rd w v l) : ∃ A c, v = .slice A l.length c := by
  obtain ⟨A, n, c, rfl, hn, -⟩ := h
  exact ⟨A, c, by rw [hn]⟩

set_option maxHeartbeats 1600000 in
set_option maxRecDepth 100000 in
theorem l02Is_any (w : World) (b : Nat) (v : Value) (g : List (List Int)) (hcv : w.cell? ⟨b, 0, none⟩ = some v) (h : RdG w v g) :
    Calls Try.prog 103 #[.pointer (some ⟨b, 0, none⟩)] w fun e w' => e = .returned (.bool (isG g)) ∧ w = w' := by
  have hlen := h.len
  obtain ⟨A, n, c, rfl, hn, -, -, r⟩ := h
  have hnl : n ≤ 9223372036854775807 := by unfold maxLen at hlen; omega
  have HN := Lib.hid hn
  have HR := Lib.hid r
  clear hlen hn r
  by_cases h12 : 1 ≤ n ∧ n ≤ 12
  · have HB : Hid (∀ (k : Nat) (h : k < g.length), okRow n g[k] = false → isG g = false) := by
      show ∀ (k : Nat) (h : k < g.length), _
      intro k h hb
      exact isG_bad g k h (by rw [HN.out]; exact hb)
    have HA : Hid (g.all (okRow n) = true → isG g = true) := by
      show _ → _
      intro ha
      exact isG_all g (by rw [HN.out]; exact h12) (by rw [HN.out]; exact ha)
    obtain ⟨n1, n2⟩ := h12
    generalize isG g = V at *
    go_enter Try.func103, Try.ntmps103
    go_wp2_with fail
    refine (l00In_yes _ _ _ _ (by omega) (by omega)).mono ?_; rintro e w' ⟨rfl, rfl⟩
    go_wp2_with fail
    go_loop [4] (fun i => ∃ k : Nat, k ≤ n ∧ i = .int .i64 k ∧ (g.take k).all (okRow n) = true) (fun i => n - (intOf i).toNat)
    case atStart => exact ⟨0, Nat.zero_le _, rfl, rfl⟩
    case round =>
      obtain ⟨k, hk, rfl, hall⟩ := hrel
      by_cases hlt : k < n
      · obtain ⟨b1, o1, rfl, -, hc⟩ := HR.out (by omega)
        have hkl : k < g.length := by have := HN.out; omega
        obtain ⟨u, hc0, hrd⟩ := hc k hkl
        have HB2 := Lib.hid (HB.out k hkl)
        have HS2 := Lib.hid (fun hr => all_snoc (n := n) hkl hall hr)
        have HRD := Lib.hid hrd
        have hk0 : (0 : Int) ≤ (k : Int) := by omega
        have hk1 : (k : Int) < (n : Int) := by omega
        clear hc hrd hall
        generalize g[k] = row at *
        by_cases h2 : row.length = 2
        · obtain ⟨b2, o2, c2, rfl, -, e0, e1⟩ := rd_two HRD.out h2
          have HOK : Hid (okRow n row = decide ((-1 ≤ row.getD 0 0 ∧ row.getD 0 0 ≤ (n : Int) - 1) ∧ (-1 ≤ row.getD 1 0 ∧ row.getD 1 0 ≤ (n : Int) - 1) ∧ ¬ (row.getD 0 0 < 0 ∧ row.getD 1 0 < 0))) := by
            show _ = _; unfold okRow; simp [h2]
          have H2 := Lib.hid h2
          clear h2 HRD
          generalize row.getD 0 0 = x at *
          generalize row.getD 1 0 = y at *
          have t1 : IntKind.i64.wrap ((n : Int) - 1) = (n : Int) - 1 := IntWalk.i64_in _ (by omega)
          by_cases hx : -1 ≤ x ∧ x ≤ (n : Int) - 1
          · by_cases hy : -1 ≤ y ∧ y ≤ (n : Int) - 1
            · by_cases hz : x < 0
              · by_cases hw : y < 0
                · have HV : Hid (V = false) := HB2.out (by rw [HOK.out]; exact decide_eq_false (fun e => e.2.2 ⟨hz, hw⟩))
                  obtain ⟨x1, x2⟩ := hx
                  obtain ⟨y1, y2⟩ := hy
                  go_wp2_with (first | (go_at_call_of 75 (Value.int .i64 x); refine (l00In_yes _ _ _ _ x1 x2).mono ?_; rintro e w' ⟨rfl, rfl⟩) | (go_at_call_of 75 (Value.int .i64 y); refine (l00In_yes _ _ _ _ y1 y2).mono ?_; rintro e w' ⟨rfl, rfl⟩))
                  go_ret
                  exact ⟨ret_bool HV.out.symm, rfl⟩
                · have HV : Hid (okRow n row = true) := by show _ = _; rw [HOK.out]; exact decide_eq_true ⟨hx, hy, fun e => hw e.2⟩
                  obtain ⟨x1, x2⟩ := hx
                  obtain ⟨y1, y2⟩ := hy
                  go_wp2_with (first | (go_at_call_of 75 (Value.int .i64 x); refine (l00In_yes _ _ _ _ x1 x2).mono ?_; rintro e w' ⟨rfl, rfl⟩) | (go_at_call_of 75 (Value.int .i64 y); refine (l00In_yes _ _ _ _ y1 y2).mono ?_; rintro e w' ⟨rfl, rfl⟩))
                  go_round
                  case rel => exact ⟨k + 1, by omega, by go_num, HS2.out HV.out⟩
                  case measure => simp [intOf]; omega
              · have HV : Hid (okRow n row = true) := by show _ = _; rw [HOK.out]; exact decide_eq_true ⟨hx, hy, fun e => hz e.1⟩
                obtain ⟨x1, x2⟩ := hx
                obtain ⟨y1, y2⟩ := hy
                go_wp2_with (first | (go_at_call_of 75 (Value.int .i64 x); refine (l00In_yes _ _ _ _ x1 x2).mono ?_; rintro e w' ⟨rfl, rfl⟩) | (go_at_call_of 75 (Value.int .i64 y); refine (l00In_yes _ _ _ _ y1 y2).mono ?_; rintro e w' ⟨rfl, rfl⟩))
                go_round
                case rel => exact ⟨k + 1, by omega, by go_num, HS2.out HV.out⟩
                case measure => simp [intOf]; omega
            · have HV : Hid (V = false) := HB2.out (by rw [HOK.out]; exact decide_eq_false (fun e => hy e.2.1))
              have HY := Lib.hid hy
              obtain ⟨x1, x2⟩ := hx
              clear hy
              go_wp2_with fail
              refine (l00In_yes _ _ _ _ x1 x2).mono ?_; rintro e w' ⟨rfl, rfl⟩
              go_wp2_with fail
              refine (l00In_no _ _ _ _ HY.out).mono ?_; rintro e w' ⟨rfl, rfl⟩
              go_wp2_with fail
              go_ret
              exact ⟨ret_bool HV.out.symm, rfl⟩
          · have HV : Hid (V = false) := HB2.out (by rw [HOK.out]; exact decide_eq_false (fun e => hx e.1))
            have HX := Lib.hid hx
            clear hx
            go_wp2_with fail
            refine (l00In_no _ _ _ _ HX.out).mono ?_; rintro e w' ⟨rfl, rfl⟩
            go_wp2_with fail
            go_ret
            exact ⟨ret_bool HV.out.symm, rfl⟩
        · obtain ⟨A2, c2, rfl⟩ := rd_any HRD.out
          have HV : Hid (V = false) := HB2.out (by unfold okRow; exact decide_eq_false (fun e => h2 e.1))
          have hne : ((row.length : Int) != 2) = true := bne_t (by omega)
          go_wp2_with fail
          go_ret
          exact ⟨ret_bool HV.out.symm, rfl⟩
      · obtain rfl : k = n := by omega
        have HV : Hid (V = true) := by
          show _ = _
          rw [List.take_of_length_le (by have := HN.out; omega)] at hall
          exact HA.out hall
        clear hall
        go_wp2_with fail
        go_ret
        exact ⟨ret_bool HV.out.symm, rfl⟩
  · have HV : Hid (isG g = false) := isG_len g (by rw [HN.out]; exact h12)
    have H12 : Hid (¬ ((1 : Int) ≤ (n : Int) ∧ (n : Int) ≤ 12)) := fun e => h12 (by omega)
    clear h12
    go_enter Try.func103, Try.ntmps103
    go_wp2_with fail
    refine (l00In_no _ _ _ _ H12.out).mono ?_; rintro e w' ⟨rfl, rfl⟩
    go_wp2_with fail
    go_ret
    exact ⟨ret_bool HV.out.symm, rfl⟩
end Go.Proofs.Ytllkojakeoennab
