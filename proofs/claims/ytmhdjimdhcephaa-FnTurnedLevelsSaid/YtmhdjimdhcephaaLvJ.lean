/- Both TurnLevels; the lengths of runs; both LongestFlat. -/
import Derived.Test.YtmhdjimdhcephaaLvI
import Derived.Deep.QuietTactic
namespace Go.Proofs.Ytmhdjimdhcephaa
open Go Go.RowKit
set_option linter.unusedVariables false

theorem ret_vbL {v u : Value} {c d : Bool} (h : v = u) (h2 : c = d) : Ending.returned (.tuple #[v, .bool c]) = .returned (.tuple #[u, .bool d]) := by rw [h, h2]
theorem ng_no {l : List Int} (h : lvB l = false) : ngV l = [] := by unfold ngV; rw [h]; rfl
theorem ng_yes {l : List Int} (h : lvB l = true) : ngV l = ngL l := by unfold ngV; rw [h]; rfl
set_option maxRecDepth 100000 in
set_option maxHeartbeats 1000000 in
theorem turn_spec (w : World) (v : Value) (l : List Int) (h : Rd w v l) :
    Calls Try.prog 21 #[v] w fun e w' => ∃ u, e = .returned (.tuple #[u, .bool (lvB l)]) ∧ Own w' w.heap.size u (ngV l) ∧ Below w.heap.size w w' := by
  have HC := Lib.hid (l10Is_any w v l h)
  cases g0 : lvB l
  · rw [ng_no g0]
    rw [g0] at HC
    obtain ⟨A, cp, rfl⟩ := rd_sh h
    clear g0 h
    go_enter Try.func21, Try.ntmps21
    go_wp2_with fail
    refine HC.out.mono ?_; rintro e w' ⟨rfl, rfl⟩
    go_wp2_with fail
    go_ret2
    exact ⟨_, rfl, World.ownsRow_nil _ _ _ _, Below.refl _ _⟩
  · obtain ⟨i0, hi, hz0, hz1, hz2⟩ := info_parts Try.infoInt
    rw [ng_yes g0]
    rw [g0] at HC
    obtain ⟨hl, hx⟩ := lvB_parts g0
    have HV := Lib.hid hx
    obtain ⟨A, n, c, rfl, hn, -, -, r⟩ := h
    rw [hn] at hl
    have HN := Lib.hid hn
    have HR := Lib.hid r
    have HLN : Hid ((ngL l).length = n) := by show _ = _; rw [ngL_len, hn]
    have HST : Hid (∀ k (h : k < l.length), (ngL l).take (k + 1) = (ngL l).take k ++ [-l[k]]) := fun k h => ngL_take h
    have HTA : Hid ((ngL l).take n = ngL l) := by show _ = _; rw [List.take_of_length_le (by rw [ngL_len]; omega)]
    clear g0 hn r hx
    go_enter Try.func21, Try.ntmps21
    go_wp2_with fail
    refine HC.out.mono ?_; rintro e w' ⟨rfl, rfl⟩
    go_wp2_with fail
    go_loopw [4, 5] (fun v i wr => ∃ k : Nat, k ≤ n ∧ i = .int .i64 k ∧ Own wr w.heap.size v ((ngL l).take k) ∧ Below w.heap.size w wr) (fun _ i _ => n - (intOf i).toNat)
    case atStart => exact ⟨0, Nat.zero_le _, rfl, World.ownsRow_made w #[] 0 (Nat.le_refl _) (by decide) rfl, (Below.refl _ _).alloc (Nat.le_refl _) _⟩
    case round =>
      obtain ⟨k, hk, rfl, hown, hb⟩ := hrel
      have HO := Lib.hid hown
      have HB := Lib.hid hb
      obtain ⟨A1, c1, hv1⟩ := own_shape HO.out
      have HL1 : Hid (((ngL l).take k).length = k) := by show _ = _; rw [List.length_take, HLN.out]; omega
      rw [HL1.out] at hv1
      subst hv1
      clear hown hb
      by_cases hlt : k < n
      · obtain ⟨b, o, rfl, hlt0, hc⟩ := HR.out (by omega)
        have hk1 : (k : Int) < (n : Int) := by omega
        have hk0 : (0 : Int) ≤ (k : Int) := by omega
        have hkl : k < l.length := by have := HN.out; omega
        have hv := HV.out l[k] (List.getElem_mem hkl)
        have HS := Lib.hid (HST.out k hkl)
        have hc0 := (HB.out.cell (p := ⟨b, o + k, none⟩) hlt0).trans (hc k hkl)
        clear hc
        generalize l[k] = x at *
        have w1 : IntKind.i64.wrap (-x) = -x := IntWalk.i64_in _ (by omega)
        have hsz : w.heap.size ≤ wr.heap.size := HB.out.size
        have HOk : Hid (∀ o : Obj, (wr.alloc o).ownsRow w.heap.size 2 1 (.slice A1 k c1) k (intVals ((ngL l).take k))) := by
          show ∀ _, _
          intro o
          have := World.ownsRow.alloc HO.out o
          rwa [HL1.out] at this
        go_wp2_with (at_builtin; refine wpList_append_lies _ rfl _ _ 22 rfl w.heap.size 2 i0 (.int .i64 0) 1 8 Try.underlying22 hi hz0 hz1 hz2 rfl (by decide) _ _ _ rfl (HOk.out _) ⟨wr.heap.size, 0, none⟩ 1 1 [.int .i64 (-x)] rfl rfl ?c1 ?c2 (by decide) ?c3 ?c4 ?c5 (wr.heap.size + 1) (by simp) ?_)
        case c1 => exact c1_int _ _ _
        case c2 => intro u hu; simp at hu; subst hu; rfl
        case c3 => unfold maxLen; omega
        case c4 => omega
        case c5 => simp; omega
        intro gg cap w2' hown2 hgrow hat hlt2
        have HB2 := Lib.hid (below_cons HB.out HB.out.size HO.out hgrow)
        have HO2 : Hid (Own w2' w.heap.size (.slice (some ⟨gg, 0, none⟩) (k + 1) cap) ((ngL l).take (k + 1))) := by
          show Own _ _ _ _
          unfold Own
          rw [HS.out, List.length_append, ← intVals_snoc, HL1.out]; exact hown2
        clear hown2 hgrow hat hlt2 HO HB hc0 HOk
        go_wp2_with fail
        first | go_roundw | (go_region; go_wp2_with fail; go_roundw)
        case rel => exact ⟨k + 1, by omega, by go_num, HO2.out, HB2.out⟩
        case measure => simp [intOf]; omega
      · obtain rfl : k = n := by omega
        go_wp2_with fail
        go_ret2
        exact ⟨_, rfl, by rw [← HTA.out]; exact HO.out, HB.out⟩
set_option maxRecDepth 100000 in
set_option maxHeartbeats 1000000 in
theorem turn_impl (w : World) (v : Value) (l : List Int) (h : Rd w v l) :
    Calls Try.prog 22 #[v] w fun e w' => ∃ u, e = .returned (.tuple #[u, .bool (lvB l)]) ∧ Own w' w.heap.size u (ngV l) ∧ Below w.heap.size w w' := by
  have HC := Lib.hid (areLevels_any w v l h)
  cases g0 : lvB l
  · rw [ng_no g0]
    rw [g0] at HC
    obtain ⟨A, cp, rfl⟩ := rd_sh h
    clear g0 h
    go_enter Try.func22, Try.ntmps22
    go_wp2_with fail
    refine HC.out.mono ?_; rintro e w' ⟨rfl, rfl⟩
    go_wp2_with fail
    go_ret2
    exact ⟨_, rfl, World.ownsRow_nil _ _ _ _, Below.refl _ _⟩
  · rw [ng_yes g0]
    rw [g0] at HC
    obtain ⟨hl, hx⟩ := lvB_parts g0
    have HV := Lib.hid hx
    obtain ⟨A, n, c, rfl, hn, -, -, r⟩ := h
    rw [hn] at hl
    have HN := Lib.hid hn
    have HR := Lib.hid r
    have HL : Hid ((ngL l).length = n) := by show _ = _; rw [ngL_len, hn]
    have HAT : Hid (∀ k (h : k < (ngL l).length) (h2 : k < l.length), (ngL l)[k] = -l[k]) := fun k h h2 => ngL_at l k h
    have hmk := make_i64 n (by omega)
    clear g0 hn r hx
    generalize hLL : ngL l = L at *
    clear hLL
    go_enter Try.func22, Try.ntmps22
    go_wp2_with fail
    refine HC.out.mono ?_; rintro e w' ⟨rfl, rfl⟩
    go_wp2_with fail
    have HF0 := Lib.hid (Fil.start w w.heap.size n L HL.out (by omega) (Nat.le_refl _))
    have HB2 := Lib.hid ((Below.refl w.heap.size w).alloc (Nat.le_refl _) (.cells (List.replicate n (Value.int .i64 0)).toArray 2))
    go_wp2_with fail
    go_loopw [15] (fun i wr => ∃ k : Nat, k ≤ n ∧ i = .int .i64 k ∧ Fil wr w.heap.size w.heap.size n L k ∧ Below w.heap.size w wr) (fun i _ => n - (intOf i).toNat)
    case atStart => exact ⟨0, Nat.zero_le _, rfl, HF0.out, HB2.out⟩
    case round =>
      obtain ⟨k, hk, rfl, hf, hb⟩ := hrel
      have FF := Lib.hid hf
      have BB := Lib.hid hb
      clear hf hb HF0 HB2
      by_cases hlt : k < n
      · obtain ⟨b, o, rfl, hlt0, hc⟩ := HR.out (by omega)
        have hk1 : (k : Int) < (n : Int) := by omega
        have hk0 : (0 : Int) ≤ (k : Int) := by omega
        have hkl : k < l.length := by have := HN.out; omega
        have hv := HV.out l[k] (List.getElem_mem hkl)
        have hc1 := (BB.out.cell (p := ⟨b, o + k, none⟩) hlt0).trans (hc k hkl)
        have HNX : Hid (Fil (wr.setCell ⟨w.heap.size, k, none⟩ (.int .i64 (-l[k]))) w.heap.size w.heap.size n L (k + 1)) := by
          show Fil _ _ _ _ _ _
          rw [← HAT.out k (by have := HL.out; omega) hkl]
          exact FF.out.next HL.out hlt
        clear hc
        generalize l[k] = x at *
        have w1 : IntKind.i64.wrap (-x) = -x := IntWalk.i64_in _ (by omega)
        have c0 := FF.out.at0 HL.out hlt
        have c1 := FF.out.fz HL.out hlt
        have hne : (b == w.heap.size) = false := by simp; omega
        go_wp2_with fail
        first | go_roundw | (go_region; go_wp2_with fail; go_roundw)
        case rel => exact ⟨k + 1, by omega, by go_num, HNX.out, BB.out.setCell (Nat.le_refl _) _⟩
        case measure => simp [intOf]; omega
      · obtain rfl : k = n := by omega
        have HO := Lib.hid (FF.out.own HL.out)
        go_wp2_with fail
        go_ret2
        exact ⟨_, rfl, HO.out, BB.out⟩
end Go.Proofs.Ytmhdjimdhcephaa
