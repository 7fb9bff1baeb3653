/- The model's bytes without 0: l04Cobs, CobsBytes. -/
import Derived.Test.YtllkojakeoennabWin
import Derived.Test.YtllkojakeoennabCoP
namespace Go.Proofs.Ytllkojakeoennab
open Go Go.RowKit
set_option linter.unusedVariables false

theorem rd_at2 {w w' : World} {A : Option Addr} {n c : Nat} {l : List Int} (h : Rd w (.slice A n c) l) (k : Nat) (hk : k < n) : ∃ b o, A = some ⟨b, o, none⟩ ∧ ∃ hl : k < l.length, w.cell? ⟨b, o + k, none⟩ = some (.int .i64 l[k]) := by
  obtain ⟨A', n', c', e', hn', -, -, r⟩ := h
  injection e' with e1 e2 e3
  subst e1; subst e2; subst e3
  obtain ⟨b, o, e, -, hc⟩ := r (by omega)
  exact ⟨b, o, e, by omega, hc k (by omega)⟩
/-- How far the cutting has come. -/
def CoR (l M : List Int) (f0 : Nat) : Prop := (f0 ≤ l.length ∧ ∃ f, l.length - f0 < f ∧ cob l = M ++ coF f (l.drop f0)) ∨ (f0 = l.length + 1 ∧ cob l = M)
theorem CoR.start (l : List Int) : CoR l [] 0 := .inl ⟨Nat.zero_le _, l.length + 1, by omega, rfl⟩
theorem CoR.len {l M : List Int} {f0 : Nat} (h : CoR l M f0) : M.length ≤ 2 * l.length + 1 := by
  have hc := cob_len l
  rcases h with ⟨_, f, _, e⟩ | ⟨_, e⟩
  · rw [e, List.length_append] at hc; omega
  · rw [e] at hc; exact hc
theorem CoR.fin {l M : List Int} {f0 : Nat} (h : CoR l M f0) (hf : l.length < f0) : cob l = M := by
  rcases h with ⟨h1, _⟩ | ⟨_, e⟩
  · omega
  · exact e
theorem CoR.step {l M : List Int} {f0 : Nat} (h : CoR l M f0) (hf : f0 ≤ l.length) (m : Nat) (hm : lead (l.drop f0) = m) :
    (m = 254 → f0 + 254 = l.length → cob l = (M ++ [((m : Int) + 1)]) ++ (l.drop f0).take m) ∧
    (m = 254 → f0 + 254 ≠ l.length → CoR l ((M ++ [((m : Int) + 1)]) ++ (l.drop f0).take m) (f0 + 254)) ∧
    (m ≠ 254 → CoR l ((M ++ [((m : Int) + 1)]) ++ (l.drop f0).take m) (f0 + m + 1)) := by
  have hle : m ≤ l.length - f0 := by have := lead_le (l.drop f0); rw [List.length_drop] at this; omega
  rcases h with ⟨_, f, hff, e⟩ | ⟨h', _⟩
  rotate_left
  · omega
  obtain ⟨f', rfl⟩ : ∃ f', f = f' + 1 := ⟨f - 1, by omega⟩
  rw [coF_succ f' _ m hm, List.length_drop] at e
  refine ⟨fun h1 h2 => ?_, fun h1 h2 => ?_, fun h1 => ?_⟩
  · rw [e, if_pos h1, if_pos (by omega)]; simp
  · refine .inl ⟨by omega, f', by omega, ?_⟩
    rw [e, if_pos h1, if_neg (by omega), List.drop_drop]; simp
  · rw [if_neg h1] at e
    by_cases h2 : l.length - f0 = m
    · rw [if_pos h2] at e
      exact .inr ⟨by omega, by rw [e]; simp⟩
    · rw [if_neg h2, List.drop_drop] at e
      refine .inl ⟨by omega, f', by omega, ?_⟩
      rw [e, Nat.add_assoc]; simp
theorem lead_at {l : List Int} {f0 k : Nat} (h1 : ∀ j (hj : j < l.length), f0 ≤ j → j < f0 + k → l[j] ≠ 0) (h2 : k ≤ 254) (h3 : f0 + k ≤ l.length) (h4 : ∀ hj : f0 + k < l.length, l[f0 + k] ≠ 0 → k = 254) : lead (l.drop f0) = k := by
  refine lead_of _ k (fun j hj hl => ?_) h2 (by rw [List.length_drop]; omega) (fun hl h => ?_)
  · rw [List.getElem_drop]
    exact h1 _ _ (by omega) (by omega)
  · rw [List.getElem_drop] at h
    rw [List.length_drop] at hl
    exact h4 (by omega) h

set_option maxRecDepth 100000 in
set_option maxHeartbeats 4000000 in
theorem l04Cobs_any (w : World) (vb : Value) (l : List Int) (hl : Rd w vb l) (hlen : l.length ≤ 300000) :
    Calls Try.prog 64 #[vb] w fun e w' => ∃ v, e = .returned v ∧ Own w' w.heap.size v (cob l) ∧ Below w.heap.size w w' := by
  obtain ⟨i0, hi, hz0, hz1, hz2⟩ := info_parts Try.infoInt
  have HV := Lib.hid hl
  obtain ⟨A, n, c, rfl, hn, hnc, -, -⟩ := hl
  have HN := Lib.hid hn
  rw [hn] at hlen
  clear hn
  go_enter Try.func64, Try.ntmps64
  go_wp2_with fail
  go_loopw [3, 4] (fun v i wr => ∃ (f0 : Nat) (M : List Int), i = .int .i64 f0 ∧ CoR l M f0 ∧ Own wr w.heap.size v M ∧ Below w.heap.size w wr) (fun _ i _ => n + 1 - (intOf i).toNat)
  case atStart => exact ⟨0, [], rfl, CoR.start l, World.ownsRow_made w #[] 0 (Nat.le_refl _) (by decide) rfl, (Below.refl _ _).alloc (Nat.le_refl _) _⟩
  case round =>
    obtain ⟨f0, M, rfl, hcr, hown, hbw⟩ := hrel
    have HCR := Lib.hid hcr
    have hML := hcr.len
    rw [HN.out] at hML
    clear hcr
    by_cases hlt : f0 ≤ n
    rotate_left
    · have HE := Lib.hid (HCR.out.fin (by rw [HN.out]; omega))
      have hlt' : ¬ (f0 : Int) ≤ (n : Int) := by omega
      rw [← HE.out] at hown
      go_wp2_with fail
      go_ret
      exact ⟨_, rfl, hown, hbw⟩
    have HO := Lib.hid hown
    have HB := Lib.hid hbw
    have hlt' : (f0 : Int) ≤ (n : Int) := by omega
    clear hown hbw
    go_wp2_with fail
    go_loopw [5] (fun i wr2 => ∃ k : Nat, i = .int .i64 ((f0 : Int) + (k : Int)) ∧ wr2 = wr ∧ f0 + k ≤ n ∧ k ≤ 254 ∧ ∀ j (hj : j < l.length), f0 ≤ j → j < f0 + k → l[j] ≠ 0) (fun i _ => n - (intOf i).toNat)
    case atStart => exact ⟨0, by simp, rfl, hlt, by decide, fun j hj h1 h2 => by omega⟩
    case round =>
      obtain ⟨k, rfl, rfl, hk1, hk2, hbe⟩ := hrel
      have HBE := Lib.hid hbe
      have hd1 : ((f0 : Int) + (k : Int)) - (f0 : Int) = (k : Int) := by omega
      have hd2 : ((f0 : Int) + (k : Int)).toNat = f0 + k := by omega
      clear hbe
      by_cases hk : f0 + k < n
      rotate_left
      · have HLD : Hid (lead (l.drop f0) = k) := lead_at HBE.out hk2 (by rw [HN.out]; exact hk1) (fun hj => by rw [HN.out] at hj; omega)
        have hnk : ¬ (f0 : Int) + (k : Int) < (n : Int) := by omega
        by_cases hcf : c = f0
        · subst hcf
          have hs := HCR.out.step (by rw [HN.out]; exact hlt) k HLD.out
          obtain ⟨c1, c2, c3⟩ := hs
          have HC1 := Lib.hid c1
          have HC2 := Lib.hid c2
          have HC3 := Lib.hid c3
          have ho := HO.out
          have hwc := win_cells (HV.out.keep HB.out) c k (by omega)
          have htl : ((l.drop c).take k).length = k := by rw [List.length_take, List.length_drop, HN.out]; omega
          clear c1 c2 c3
          go_wp2_with (at_builtin; refine wpList_append_own _ rfl _ _ 22 rfl w.heap.size 2 i0 (.int .i64 0) 1 8 Try.underlying22 hi hz0 hz1 hz2 rfl (by decide) _ _ _ rfl (ho.alloc _) ⟨wr.heap.size, 0, none⟩ 1 1 [.int .i64 ((k : Int) + 1)] rfl rfl (by exact c1_int1 _ _ _) (by intro u hu; simp at hu; subst hu; rfl) ?xc3 ?xc4 ?xc5 ?_)
          case xc3 => unfold maxLen; first | omega | (simp; omega)
          case xc4 => first | omega | (simp; omega)
          case xc5 => have := HB.out.size; simp; omega
          intro v1 w1 hown1 hgrow1 _
          have hb1 := below_int HB.out HB.out.size (Nat.le_refl _) ho hgrow1
          have ho1 : Own w1 w.heap.size v1 (M ++ [((k : Int) + 1)]) := by
            refine own_of hown1 ?_ ?_
            · simp
            · simp [intVals]
          have hwc1 := win_cells (HV.out.keep hb1) c k (by omega)
          clear hown1 hgrow1 ho hwc
          have hf0 : (0 : Int) ≤ (c : Int) := by omega
          have hf1 : (c : Int) ≤ (c : Int) + (k : Int) := by omega
          have hf2 : (c : Int) + (k : Int) ≤ (c : Int) := by omega
          have hf3 : c + k - c = k := by omega
          rw [if_pos rfl] at hwc1
          go_wp2_with (at_builtin; refine wpList_append_win _ rfl _ _ 22 rfl w.heap.size 2 i0 (.int .i64 0) 1 8 Try.underlying22 hi hz0 hz1 hz2 rfl (by decide) _ _ _ rfl ho1 _ k _ (intVals ((l.drop c).take k)) rfl (by rw [intVals_length, htl, Nat.mul_one]) (by exact hwc1.1) (by exact hwc1.2) (by intro u hu; unfold intVals at hu; obtain ⟨x, _, rfl⟩ := List.mem_map.1 hu; rfl) ?xd3 ?xd4 ?xd5 ?_)
          case xd3 => unfold maxLen; first | omega | (simp; omega)
          case xd4 => first | omega | (simp; omega)
          case xd5 => exact hb1.size
          intro v2 w2 hown2 hgrow2
          have hb2 : Below w.heap.size w w2 := hb1.grown hgrow2 hb1.size (fun j hj => (World.ownsRow.lt ho1 j hj).1)
          have ho2 : Own w2 w.heap.size v2 ((M ++ [((k : Int) + 1)]) ++ (l.drop c).take k) := by
            refine own_of hown2 ?_ ?_
            · simp [htl]; omega
            · simp [intVals]
          clear hown2 hgrow2 ho1 hwc1 hb1
          have hkk : ((k : Int) == 254) = decide (k = 254) := by rw [Bool.eq_iff_iff, beq_iff_eq, decide_eq_true_iff]; omega
          by_cases h5 : k = 254
          · exfalso; omega
          · have h5b : ((k : Int) == 254) = false := beq_f (by omega)
            have HE : Hid (CoR l ((M ++ [((k : Int) + 1)]) ++ (l.drop c).take k) (c + k + 1)) := HC3.out h5
            clear hkk
            go_wp2_with fail
            all_goals go_roundw
            all_goals first | exact ⟨c + k + 1, _, by first | go_num | (refine congrArg (Value.int IntKind.i64) ?_; omega), HE.out, ho2, hb2⟩ | (simp [intOf]; omega)
        · have hs := HCR.out.step (by rw [HN.out]; exact hlt) k HLD.out
          obtain ⟨c1, c2, c3⟩ := hs
          have HC1 := Lib.hid c1
          have HC2 := Lib.hid c2
          have HC3 := Lib.hid c3
          have ho := HO.out
          have hwc := win_cells (HV.out.keep HB.out) f0 k (by omega)
          have htl : ((l.drop f0).take k).length = k := by rw [List.length_take, List.length_drop, HN.out]; omega
          clear c1 c2 c3
          go_wp2_with (at_builtin; refine wpList_append_own _ rfl _ _ 22 rfl w.heap.size 2 i0 (.int .i64 0) 1 8 Try.underlying22 hi hz0 hz1 hz2 rfl (by decide) _ _ _ rfl (ho.alloc _) ⟨wr.heap.size, 0, none⟩ 1 1 [.int .i64 ((k : Int) + 1)] rfl rfl (by exact c1_int1 _ _ _) (by intro u hu; simp at hu; subst hu; rfl) ?vc3 ?vc4 ?vc5 ?_)
          case vc3 => unfold maxLen; first | omega | (simp; omega)
          case vc4 => first | omega | (simp; omega)
          case vc5 => have := HB.out.size; simp; omega
          intro v1 w1 hown1 hgrow1 _
          have hb1 := below_int HB.out HB.out.size (Nat.le_refl _) ho hgrow1
          have ho1 : Own w1 w.heap.size v1 (M ++ [((k : Int) + 1)]) := by
            refine own_of hown1 ?_ ?_
            · simp
            · simp [intVals]
          have hwc1 := win_cells (HV.out.keep hb1) f0 k (by omega)
          clear hown1 hgrow1 ho hwc
          have hf0 : (0 : Int) ≤ (f0 : Int) := by omega
          have hf1 : (f0 : Int) ≤ (f0 : Int) + (k : Int) := by omega
          have hf2 : (f0 : Int) + (k : Int) ≤ (c : Int) := by omega
          have hf3 : f0 + k - f0 = k := by omega
          rw [if_neg hcf] at hwc1
          go_wp2_with (at_builtin; refine wpList_append_win _ rfl _ _ 22 rfl w.heap.size 2 i0 (.int .i64 0) 1 8 Try.underlying22 hi hz0 hz1 hz2 rfl (by decide) _ _ _ rfl ho1 _ k _ (intVals ((l.drop f0).take k)) rfl (by rw [intVals_length, htl, Nat.mul_one]) (by exact hwc1.1) (by exact hwc1.2) (by intro u hu; unfold intVals at hu; obtain ⟨x, _, rfl⟩ := List.mem_map.1 hu; rfl) ?vd3 ?vd4 ?vd5 ?_)
          case vd3 => unfold maxLen; first | omega | (simp; omega)
          case vd4 => first | omega | (simp; omega)
          case vd5 => exact hb1.size
          intro v2 w2 hown2 hgrow2
          have hb2 : Below w.heap.size w w2 := hb1.grown hgrow2 hb1.size (fun j hj => (World.ownsRow.lt ho1 j hj).1)
          have ho2 : Own w2 w.heap.size v2 ((M ++ [((k : Int) + 1)]) ++ (l.drop f0).take k) := by
            refine own_of hown2 ?_ ?_
            · simp [htl]; omega
            · simp [intVals]
          clear hown2 hgrow2 ho1 hwc1 hb1
          have hkk : ((k : Int) == 254) = decide (k = 254) := by rw [Bool.eq_iff_iff, beq_iff_eq, decide_eq_true_iff]; omega
          by_cases h5 : k = 254
          · have h5b : ((k : Int) == 254) = true := beq_t (by omega)
            by_cases h6 : f0 + 254 = n
            · have h6b : ((f0 : Int) + (k : Int) == (n : Int)) = true := beq_t (by omega)
              have HE : Hid (cob l = (M ++ [((k : Int) + 1)]) ++ (l.drop f0).take k) := HC1.out h5 (by rw [HN.out]; exact h6)
              rw [← HE.out] at ho2
              clear hkk
              go_wp2_with fail
              all_goals go_ret
              all_goals exact ⟨_, rfl, ho2, hb2⟩
            · have h6b : ((f0 : Int) + (k : Int) == (n : Int)) = false := beq_f (by omega)
              have HE : Hid (CoR l ((M ++ [((k : Int) + 1)]) ++ (l.drop f0).take k) (f0 + 254)) := HC2.out h5 (by rw [HN.out]; exact h6)
              clear hkk
              go_wp2_with fail
              all_goals go_roundw
              all_goals first | exact ⟨f0 + 254, _, by first | go_num | (refine congrArg (Value.int IntKind.i64) ?_; omega), HE.out, ho2, hb2⟩ | (simp [intOf]; omega)
          · have h5b : ((k : Int) == 254) = false := beq_f (by omega)
            have HE : Hid (CoR l ((M ++ [((k : Int) + 1)]) ++ (l.drop f0).take k) (f0 + k + 1)) := HC3.out h5
            clear hkk
            go_wp2_with fail
            all_goals go_roundw
            all_goals first | exact ⟨f0 + k + 1, _, by first | go_num | (refine congrArg (Value.int IntKind.i64) ?_; omega), HE.out, ho2, hb2⟩ | (simp [intOf]; omega)
      · obtain ⟨b, o, rfl, hkl, hc0⟩ := rd_at2 (w' := wr) (HV.out.keep HB.out) (f0 + k) hk
        have hnk : (f0 : Int) + (k : Int) < (n : Int) := by omega
        have hk0 : (0 : Int) ≤ (f0 : Int) + (k : Int) := by omega
        obtain ⟨y, hy⟩ : ∃ y, l[f0 + k] = y := ⟨_, rfl⟩
        rw [hy] at hc0
        by_cases hy0 : y = 0
        · have HLD : Hid (lead (l.drop f0) = k) := lead_at HBE.out hk2 (by rw [HN.out]; exact hk1) (fun hj h => absurd (by rw [hy]; exact hy0) h)
          have hq : (y != 0) = false := bne_f hy0
          clear hy
          have hs := HCR.out.step (by rw [HN.out]; exact hlt) k HLD.out
          obtain ⟨c1, c2, c3⟩ := hs
          have HC1 := Lib.hid c1
          have HC2 := Lib.hid c2
          have HC3 := Lib.hid c3
          have ho := HO.out
          have hwc := win_cells (HV.out.keep HB.out) f0 k (by omega)
          have htl : ((l.drop f0).take k).length = k := by rw [List.length_take, List.length_drop, HN.out]; omega
          clear c1 c2 c3
          go_wp2_with (at_builtin; refine wpList_append_own _ rfl _ _ 22 rfl w.heap.size 2 i0 (.int .i64 0) 1 8 Try.underlying22 hi hz0 hz1 hz2 rfl (by decide) _ _ _ rfl (ho.alloc _) ⟨wr.heap.size, 0, none⟩ 1 1 [.int .i64 ((k : Int) + 1)] rfl rfl (by exact c1_int1 _ _ _) (by intro u hu; simp at hu; subst hu; rfl) ?yc3 ?yc4 ?yc5 ?_)
          case yc3 => unfold maxLen; first | omega | (simp; omega)
          case yc4 => first | omega | (simp; omega)
          case yc5 => have := HB.out.size; simp; omega
          intro v1 w1 hown1 hgrow1 _
          have hb1 := below_int HB.out HB.out.size (Nat.le_refl _) ho hgrow1
          have ho1 : Own w1 w.heap.size v1 (M ++ [((k : Int) + 1)]) := by
            refine own_of hown1 ?_ ?_
            · simp
            · simp [intVals]
          have hwc1 := win_cells (HV.out.keep hb1) f0 k (by omega)
          clear hown1 hgrow1 ho hwc
          have hf0 : (0 : Int) ≤ (f0 : Int) := by omega
          have hf1 : (f0 : Int) ≤ (f0 : Int) + (k : Int) := by omega
          have hf2 : (f0 : Int) + (k : Int) ≤ (c : Int) := by omega
          have hf3 : f0 + k - f0 = k := by omega
          have hcf : ¬ c = f0 := by omega
          rw [if_neg hcf, Option.map_some, add_plain2] at hwc1
          go_wp2_with (at_builtin; refine wpList_append_win _ rfl _ _ 22 rfl w.heap.size 2 i0 (.int .i64 0) 1 8 Try.underlying22 hi hz0 hz1 hz2 rfl (by decide) _ _ _ rfl ho1 _ k _ (intVals ((l.drop f0).take k)) rfl (by rw [intVals_length, htl, Nat.mul_one]) (by exact hwc1.1) (by exact hwc1.2) (by intro u hu; unfold intVals at hu; obtain ⟨x, _, rfl⟩ := List.mem_map.1 hu; rfl) ?yd3 ?yd4 ?yd5 ?_)
          case yd3 => unfold maxLen; first | omega | (simp; omega)
          case yd4 => first | omega | (simp; omega)
          case yd5 => exact hb1.size
          intro v2 w2 hown2 hgrow2
          have hb2 : Below w.heap.size w w2 := hb1.grown hgrow2 hb1.size (fun j hj => (World.ownsRow.lt ho1 j hj).1)
          have ho2 : Own w2 w.heap.size v2 ((M ++ [((k : Int) + 1)]) ++ (l.drop f0).take k) := by
            refine own_of hown2 ?_ ?_
            · simp [htl]; omega
            · simp [intVals]
          clear hown2 hgrow2 ho1 hwc1 hb1
          have hkk : ((k : Int) == 254) = decide (k = 254) := by rw [Bool.eq_iff_iff, beq_iff_eq, decide_eq_true_iff]; omega
          by_cases h5 : k = 254
          · have h5b : ((k : Int) == 254) = true := beq_t (by omega)
            by_cases h6 : f0 + 254 = n
            · have h6b : ((f0 : Int) + (k : Int) == (n : Int)) = true := beq_t (by omega)
              have HE : Hid (cob l = (M ++ [((k : Int) + 1)]) ++ (l.drop f0).take k) := HC1.out h5 (by rw [HN.out]; exact h6)
              rw [← HE.out] at ho2
              clear hkk
              go_wp2_with fail
              all_goals go_ret
              all_goals exact ⟨_, rfl, ho2, hb2⟩
            · have h6b : ((f0 : Int) + (k : Int) == (n : Int)) = false := beq_f (by omega)
              have HE : Hid (CoR l ((M ++ [((k : Int) + 1)]) ++ (l.drop f0).take k) (f0 + 254)) := HC2.out h5 (by rw [HN.out]; exact h6)
              clear hkk
              go_wp2_with fail
              all_goals go_roundw
              all_goals first | exact ⟨f0 + 254, _, by first | go_num | (refine congrArg (Value.int IntKind.i64) ?_; omega), HE.out, ho2, hb2⟩ | (simp [intOf]; omega)
          · have h5b : ((k : Int) == 254) = false := beq_f (by omega)
            have HE : Hid (CoR l ((M ++ [((k : Int) + 1)]) ++ (l.drop f0).take k) (f0 + k + 1)) := HC3.out h5
            clear hkk
            go_wp2_with fail
            all_goals go_roundw
            all_goals first | exact ⟨f0 + k + 1, _, by first | go_num | (refine congrArg (Value.int IntKind.i64) ?_; omega), HE.out, ho2, hb2⟩ | (simp [intOf]; omega)
        · have hq : (y != 0) = true := bne_t hy0
          by_cases h254 : k < 254
          · have hk254 : (k : Int) < 254 := by omega
            have HBN : Hid (∀ j (hj : j < l.length), f0 ≤ j → j < f0 + (k + 1) → l[j] ≠ 0) := by
              show ∀ j (hj : j < l.length), f0 ≤ j → j < f0 + (k + 1) → l[j] ≠ 0
              intro j hj h1 h2
              by_cases e : j = f0 + k
              · subst e; rw [hy]; exact hy0
              · exact HBE.out j hj h1 (by omega)
            clear hy
            go_wp2_with fail
            go_roundw
            case rel => exact ⟨k + 1, by first | go_num | (congr 1; omega), by first | rfl | trivial, by omega, by omega, HBN.out⟩
            case measure => simp [intOf]; omega
          · have HLD : Hid (lead (l.drop f0) = k) := lead_at HBE.out hk2 (by rw [HN.out]; exact hk1) (fun hj h => by omega)
            have hk254 : ¬ (k : Int) < 254 := by omega
            clear hy
            have hs := HCR.out.step (by rw [HN.out]; exact hlt) k HLD.out
            obtain ⟨c1, c2, c3⟩ := hs
            have HC1 := Lib.hid c1
            have HC2 := Lib.hid c2
            have HC3 := Lib.hid c3
            have ho := HO.out
            have hwc := win_cells (HV.out.keep HB.out) f0 k (by omega)
            have htl : ((l.drop f0).take k).length = k := by rw [List.length_take, List.length_drop, HN.out]; omega
            clear c1 c2 c3
            go_wp2_with (at_builtin; refine wpList_append_own _ rfl _ _ 22 rfl w.heap.size 2 i0 (.int .i64 0) 1 8 Try.underlying22 hi hz0 hz1 hz2 rfl (by decide) _ _ _ rfl (ho.alloc _) ⟨wr.heap.size, 0, none⟩ 1 1 [.int .i64 ((k : Int) + 1)] rfl rfl (by exact c1_int1 _ _ _) (by intro u hu; simp at hu; subst hu; rfl) ?zc3 ?zc4 ?zc5 ?_)
            case zc3 => unfold maxLen; first | omega | (simp; omega)
            case zc4 => first | omega | (simp; omega)
            case zc5 => have := HB.out.size; simp; omega
            intro v1 w1 hown1 hgrow1 _
            have hb1 := below_int HB.out HB.out.size (Nat.le_refl _) ho hgrow1
            have ho1 : Own w1 w.heap.size v1 (M ++ [((k : Int) + 1)]) := by
              refine own_of hown1 ?_ ?_
              · simp
              · simp [intVals]
            have hwc1 := win_cells (HV.out.keep hb1) f0 k (by omega)
            clear hown1 hgrow1 ho hwc
            have hf0 : (0 : Int) ≤ (f0 : Int) := by omega
            have hf1 : (f0 : Int) ≤ (f0 : Int) + (k : Int) := by omega
            have hf2 : (f0 : Int) + (k : Int) ≤ (c : Int) := by omega
            have hf3 : f0 + k - f0 = k := by omega
            have hcf : ¬ c = f0 := by omega
            rw [if_neg hcf, Option.map_some, add_plain2] at hwc1
            go_wp2_with (at_builtin; refine wpList_append_win _ rfl _ _ 22 rfl w.heap.size 2 i0 (.int .i64 0) 1 8 Try.underlying22 hi hz0 hz1 hz2 rfl (by decide) _ _ _ rfl ho1 _ k _ (intVals ((l.drop f0).take k)) rfl (by rw [intVals_length, htl, Nat.mul_one]) (by exact hwc1.1) (by exact hwc1.2) (by intro u hu; unfold intVals at hu; obtain ⟨x, _, rfl⟩ := List.mem_map.1 hu; rfl) ?zd3 ?zd4 ?zd5 ?_)
            case zd3 => unfold maxLen; first | omega | (simp; omega)
            case zd4 => first | omega | (simp; omega)
            case zd5 => exact hb1.size
            intro v2 w2 hown2 hgrow2
            have hb2 : Below w.heap.size w w2 := hb1.grown hgrow2 hb1.size (fun j hj => (World.ownsRow.lt ho1 j hj).1)
            have ho2 : Own w2 w.heap.size v2 ((M ++ [((k : Int) + 1)]) ++ (l.drop f0).take k) := by
              refine own_of hown2 ?_ ?_
              · simp [htl]; omega
              · simp [intVals]
            clear hown2 hgrow2 ho1 hwc1 hb1
            have hkk : ((k : Int) == 254) = decide (k = 254) := by rw [Bool.eq_iff_iff, beq_iff_eq, decide_eq_true_iff]; omega
            by_cases h5 : k = 254
            · have h5b : ((k : Int) == 254) = true := beq_t (by omega)
              by_cases h6 : f0 + 254 = n
              · have h6b : ((f0 : Int) + (k : Int) == (n : Int)) = true := beq_t (by omega)
                have HE : Hid (cob l = (M ++ [((k : Int) + 1)]) ++ (l.drop f0).take k) := HC1.out h5 (by rw [HN.out]; exact h6)
                rw [← HE.out] at ho2
                clear hkk
                go_wp2_with fail
                all_goals go_ret
                all_goals exact ⟨_, rfl, ho2, hb2⟩
              · have h6b : ((f0 : Int) + (k : Int) == (n : Int)) = false := beq_f (by omega)
                have HE : Hid (CoR l ((M ++ [((k : Int) + 1)]) ++ (l.drop f0).take k) (f0 + 254)) := HC2.out h5 (by rw [HN.out]; exact h6)
                clear hkk
                go_wp2_with fail
                all_goals go_roundw
                all_goals first | exact ⟨f0 + 254, _, by first | go_num | (refine congrArg (Value.int IntKind.i64) ?_; omega), HE.out, ho2, hb2⟩ | (simp [intOf]; omega)
            · have h5b : ((k : Int) == 254) = false := beq_f (by omega)
              have HE : Hid (CoR l ((M ++ [((k : Int) + 1)]) ++ (l.drop f0).take k) (f0 + k + 1)) := HC3.out h5
              clear hkk
              go_wp2_with fail
              all_goals go_roundw
              all_goals first | exact ⟨f0 + k + 1, _, by first | go_num | (refine congrArg (Value.int IntKind.i64) ?_; omega), HE.out, ho2, hb2⟩ | (simp [intOf]; omega)

def cbOk (l : List Int) : Bool := byOk' 300 l
def cbV (l : List Int) : List Int := if cbOk l then cob l else []
theorem cbV_no {l : List Int} (h : cbOk l = false) : cbV l = [] := by unfold cbV; rw [h]; rfl
theorem cbV_yes {l : List Int} (h : cbOk l = true) : cbV l = cob l := by unfold cbV; rw [h]; rfl
theorem cbOk_len {l : List Int} (h : cbOk l = true) : l.length ≤ 300 := by
  unfold cbOk byOk' at h
  exact of_decide_eq_true (Bool.and_eq_true_iff.1 h).1
theorem cbV_len (l : List Int) : (cbV l).length ≤ 601 := by
  cases h : cbOk l
  · rw [cbV_no h]; simp
  · rw [cbV_yes h]
    have h1 := cbOk_len h
    have h2 := cob_len l
    omega
theorem cobsBytes_spec (w : World) (vb : Value) (l : List Int) (hl : Rd w vb l) :
    Calls Try.prog 23 #[vb] w fun e w' => ∃ v, e = .returned (.tuple #[v, .bool (cbOk l)]) ∧ Own w' w.heap.size v (cbV l) ∧ Below w.heap.size w w' := by
  have H1 := Lib.hid (l04Bytes_spec w vb l 300 (by decide) hl)
  have H2 := Lib.hid (l04Cobs_any w vb l hl)
  cases h : cbOk l
  · rw [show byOk' 300 l = false from h] at H1
    rw [cbV_no h]
    clear h hl
    go_enter Try.func23, Try.ntmps23
    go_wp2_with fail
    refine H1.out.mono ?_; rintro e w' ⟨rfl, rfl⟩
    go_wp2_with fail
    go_ret2
    exact ⟨_, rfl, own_none _ _, Below.refl _ _⟩
  · rw [show byOk' 300 l = true from h] at H1
    rw [cbV_yes h]
    have H3 := Lib.hid (H2.out (by have := cbOk_len h; omega))
    clear h hl H2
    go_enter Try.func23, Try.ntmps23
    go_wp2_with fail
    refine H1.out.mono ?_; rintro e w' ⟨rfl, rfl⟩
    go_wp2_with fail
    refine H3.out.mono ?_; rintro e w2 ⟨v2, rfl, ho2, hb2⟩
    have HO := Lib.hid ho2
    have HB := Lib.hid hb2
    clear ho2 hb2
    go_wp2_with fail
    go_ret2
    exact ⟨_, rfl, HO.out, HB.out⟩
end Go.Proofs.Ytllkojakeoennab
