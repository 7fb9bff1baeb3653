/- Both PollCycle. -/
import Derived.Test.YtjhgkkecconcaabNdI
import Derived.Test.YtjhgkkecconcaabMki
import Derived.Test.YtjhgkkecconcaabRuns
import Derived.OwnWalk
namespace Go.Proofs.Ytjhgkkecconcaab
open Go Go.RowKit
set_option linter.unusedVariables false

theorem ret_vibP {v u : Value} {x y : Int} {c d : Bool} (h : v = u) (h1 : x = y) (h2 : c = d) : Ending.returned (.tuple #[v, .int .i64 x, .bool c]) = .returned (.tuple #[u, .int .i64 y, .bool d]) := by rw [h, h1, h2]
set_option maxRecDepth 100000 in
set_option maxHeartbeats 1000000 in
theorem poll_spec (w : World) (v : Value) (l : List Int) (g : Int) (h : Rd w v l) :
    Calls Try.prog 15 #[v, .int .i64 g] w fun e w' => ∃ u, e = .returned (.tuple #[u, .int .i64 (pcyT l g), .bool (pcyB l g)]) ∧ Own w' w.heap.size u (pcyV l g) ∧ Below w.heap.size w w' := by
  have HT0 := Lib.hid (l09Needs_any w v l h)
  have HT1 := Lib.hid (rg_in g 0 1000 w)
  cases g0 : ndB l
  · obtain ⟨e1, e2, e3⟩ := pcy_no (l := l) (g := g) (.inl g0); rw [e1, e2, e3]; clear e1 e2 e3
    rw [g0] at HT0
    clear g0 HT1
    go_enter Try.func15, Try.ntmps15
    go_wp2_with fail
    refine HT0.out.mono ?_; rintro e w' ⟨rfl, rfl⟩
    go_wp2_with fail
    go_ret3
    exact ⟨_, rfl, World.ownsRow_nil _ _ _ _, Below.refl _ _⟩
  · skip
    cases g1 : rgB 0 1000 g
    · obtain ⟨e1, e2, e3⟩ := pcy_no (l := l) (g := g) (.inr g1); rw [e1, e2, e3]; clear e1 e2 e3
      rw [g0] at HT0
      rw [g1] at HT1
      clear g0 g1
      go_enter Try.func15, Try.ntmps15
      go_wp2_with fail
      refine HT0.out.mono ?_; rintro e w' ⟨rfl, rfl⟩
      go_wp2_with fail
      refine HT1.out.mono ?_; rintro e w' ⟨rfl, rfl⟩
      go_wp2_with fail
      go_ret3
      exact ⟨_, rfl, World.ownsRow_nil _ _ _ _, Below.refl _ _⟩
    · skip
      obtain ⟨i0, hi, hz0, hz1, hz2⟩ := info_parts Try.infoInt
      obtain ⟨e1, e2, e3⟩ := pcy_yes g0 g1
      rw [e1, e2, e3]
      clear e1 e2 e3
      obtain ⟨p1, p2, p3⟩ := anB_parts g0
      have hg : 0 ≤ g ∧ g ≤ 1000 := of_decide_eq_true g1
      rw [g0] at HT0
      rw [g1] at HT1
      have HBD := Lib.hid (tmA_bd p3 hg)
      have HND := Lib.hid p3
      clear p3 g0 g1
      obtain ⟨A, n, c, rfl, hn, -, -, r⟩ := h
      rw [hn] at HBD p1 p2 ⊢
      obtain ⟨b, o, rfl, hlt0, hc⟩ := r (by omega)
      have HN := Lib.hid hn
      have HC := Lib.hid hc
      have HG := Lib.hid hg
      clear hn r hc hg
      go_enter Try.func15, Try.ntmps15
      go_wp2_with fail
      refine HT0.out.mono ?_; rintro e w' ⟨rfl, rfl⟩
      go_wp2_with fail
      refine HT1.out.mono ?_; rintro e w' ⟨rfl, rfl⟩
      go_wp2_with fail
      go_loopw [7, 8, 9] (fun v t i wr => ∃ k : Nat, k ≤ n ∧ i = .int .i64 k ∧ t = .int .i64 (tmA l g k) ∧ wr.ownsRow w.heap.size 2 1 v (tmL l g k).length (intVals (tmL l g k)) ∧ Below w.heap.size w wr) (fun _ _ i _ => n - (intOf i).toNat)
      case atStart => exact ⟨0, Nat.zero_le _, rfl, rfl, World.ownsRow_made w #[] 0 (Nat.le_refl _) (by decide) rfl, (Below.refl _ _).alloc (Nat.le_refl _) _⟩
      case round =>
        obtain ⟨k, hk, rfl, rfl, hown, hb⟩ := hrel
        have HO := Lib.hid hown
        have HB := Lib.hid hb
        have HLN := Lib.hid (tmL_len l g k)
        have HS := Lib.hid (tmL_succ l g k)
        clear hown hb
        by_cases hlt : k < n
        · have hk1 : (k : Int) < (n : Int) := by omega
          have hk0 : (0 : Int) ≤ (k : Int) := by omega
          have hkl : k < l.length := by have := HN.out; omega
          obtain ⟨q0, q1⟩ := HBD.out k (by omega)
          have hx := HND.out l[k] (List.getElem_mem hkl)
          have HA := Lib.hid (tmA_at (g := g) hkl)
          have hc0 := (HB.out.cell (p := ⟨b, o + k, none⟩) hlt0).trans (HC.out k hkl)
          have HCC : Hid (∀ W, Below wr.heap.size wr W → W.cell? ⟨b, o + k, none⟩ = some (.int .i64 l[k])) := by
            show ∀ W, _ → _
            exact fun W hw => (hw.cell (p := ⟨b, o + k, none⟩) (Nat.lt_of_lt_of_le hlt0 HB.out.size)).trans hc0
          generalize l[k] = x at *
          have hg := HG.out
          have w1 : IntKind.i64.wrap (x + g) = x + g := IntWalk.i64_in _ (by omega)
          have w2 : IntKind.i64.wrap (tmA l g k + (x + g)) = tmA l g k + (x + g) := IntWalk.i64_in _ (by omega)
          generalize tmA l g k = T at *
          have hsz : w.heap.size ≤ wr.heap.size := HB.out.size
          have hll : (tmL l g k).length ≤ 12 := by rw [HLN.out]; omega
          generalize tmL l g k = L at *
          go_wp2_with (at_builtin; refine wpList_append_lies _ rfl _ _ 22 rfl w.heap.size 2 i0 (.int .i64 0) 1 8 Try.underlying22 hi hz0 hz1 hz2 rfl (by decide) _ _ _ rfl (HO.out.alloc _) ⟨wr.heap.size, 0, none⟩ 1 1 [.int .i64 T] rfl rfl ?c1 ?c2 (by decide) ?c3 ?c4 ?c5 (wr.heap.size + 1) (by simp) ?_)
          case c1 => exact c1_int _ _ _
          case c2 => intro u hu; simp at hu; subst hu; rfl
          case c3 => unfold maxLen; omega
          case c4 => omega
          case c5 => simp; omega
          intro gg cap w2' hown2 hgrow hat hlt2
          have hb2 := below_cons HB.out HB.out.size HO.out hgrow
          have HB2 := Lib.hid hb2
          have HO2 : Hid (w2'.ownsRow w.heap.size 2 1 (.slice (some ⟨gg, 0, none⟩) (L.length + 1) cap) (tmL l g (k + 1)).length (intVals (tmL l g (k + 1)))) := by
            show World.ownsRow _ _ _ _ _ _ _
            rw [HS.out, List.length_append, ← intVals_snoc]; exact hown2
          have hcc : w2'.cell? ⟨b, o + k, none⟩ = some (.int .i64 x) := (hb2.cell (p := ⟨b, o + k, none⟩) hlt0).trans ((HB.out.cell (p := ⟨b, o + k, none⟩) hlt0).symm.trans hc0)
          clear hown2 hgrow hat hlt2 hb2 hc0
          go_wp2_with fail
          first | go_roundw | (go_region; go_wp2_with fail; go_roundw) | (go_quiet (fail); go_wp2_with fail; go_roundw)
          case rel => exact ⟨k + 1, by omega, by go_num, by rw [HA.out], HO2.out, HB2.out⟩
          case measure => simp [intOf]; omega
        · obtain rfl : k = n := by omega
          go_wp2_with fail
          go_ret3
          exact ⟨_, rfl, HO.out, HB.out⟩

set_option maxRecDepth 100000 in
set_option maxHeartbeats 1000000 in
theorem poll_impl (w : World) (v : Value) (l : List Int) (g : Int) (h : Rd w v l) :
    Calls Try.prog 17 #[v, .int .i64 g] w fun e w' => ∃ u, e = .returned (.tuple #[u, .int .i64 (pcyT l g), .bool (pcyB l g)]) ∧ Own w' w.heap.size u (pcyV l g) ∧ Below w.heap.size w w' := by
  have HT0 := Lib.hid (areNeeds_any w v l h)
  have HT1 := Lib.hid (rg_is g 0 1000 w)
  cases g0 : ndB l
  · obtain ⟨e1, e2, e3⟩ := pcy_no (l := l) (g := g) (.inl g0); rw [e1, e2, e3]; clear e1 e2 e3
    rw [g0] at HT0
    clear g0 HT1
    go_enter Try.func17, Try.ntmps17
    go_wp2_with fail
    refine HT0.out.mono ?_; rintro e w' ⟨rfl, rfl⟩
    go_wp2_with fail
    go_ret3
    exact ⟨_, rfl, World.ownsRow_nil _ _ _ _, Below.refl _ _⟩
  · skip
    cases g1 : rgB 0 1000 g
    · obtain ⟨e1, e2, e3⟩ := pcy_no (l := l) (g := g) (.inr g1); rw [e1, e2, e3]; clear e1 e2 e3
      rw [g0] at HT0
      rw [g1] at HT1
      clear g0 g1
      go_enter Try.func17, Try.ntmps17
      go_wp2_with fail
      refine HT0.out.mono ?_; rintro e w' ⟨rfl, rfl⟩
      go_wp2_with fail
      refine HT1.out.mono ?_; rintro e w' ⟨rfl, rfl⟩
      go_wp2_with fail
      go_ret3
      exact ⟨_, rfl, World.ownsRow_nil _ _ _ _, Below.refl _ _⟩
    · skip
      obtain ⟨e1, e2, e3⟩ := pcy_yes g0 g1
      rw [e1, e2, e3]
      clear e1 e2 e3
      obtain ⟨p1, p2, p3⟩ := anB_parts g0
      have hg : 0 ≤ g ∧ g ≤ 1000 := of_decide_eq_true g1
      rw [g0] at HT0
      rw [g1] at HT1
      have HBD := Lib.hid (tmA_bd p3 hg)
      have HND := Lib.hid p3
      clear p3 g0 g1
      obtain ⟨A, n, c, rfl, hn, -, -, r⟩ := h
      rw [hn] at HBD p1 p2 ⊢
      obtain ⟨b, o, rfl, hlt0, hc⟩ := r (by omega)
      have HN := Lib.hid hn
      have HC := Lib.hid hc
      have HG := Lib.hid hg
      have HL := Lib.hid (tmL_len l g n)
      have HAT := Lib.hid (tmL_at l g n)
      have hmk := make_i64 n (by omega)
      clear hn r hc hg
      generalize hLL : tmL l g n = L at *
      clear hLL
      go_enter Try.func17, Try.ntmps17
      go_wp2_with fail
      refine HT0.out.mono ?_; rintro e w' ⟨rfl, rfl⟩
      go_wp2_with fail
      refine HT1.out.mono ?_; rintro e w' ⟨rfl, rfl⟩
      have HF0 := Lib.hid (Fil.start w w.heap.size n L HL.out (by omega) (Nat.le_refl _))
      have HB2 := Lib.hid ((Below.refl w.heap.size w).alloc (Nat.le_refl _) (.cells (List.replicate n (Value.int .i64 0)).toArray 2))
      go_wp2_with fail
      go_loopw [8, 24] (fun t i wr => ∃ k : Nat, k ≤ n ∧ i = .int .i64 k ∧ t = .int .i64 (tmA l g k) ∧ Fil wr w.heap.size w.heap.size n L k ∧ Below w.heap.size w wr) (fun _ i _ => n - (intOf i).toNat)
      case atStart => exact ⟨0, Nat.zero_le _, rfl, rfl, HF0.out, HB2.out⟩
      case round =>
        obtain ⟨k, hk, rfl, rfl, hf, hb⟩ := hrel
        have FF := Lib.hid hf
        have BB := Lib.hid hb
        clear hf hb HF0 HB2
        by_cases hlt : k < n
        · have hk1 : (k : Int) < (n : Int) := by omega
          have hk0 : (0 : Int) ≤ (k : Int) := by omega
          have hkl : k < l.length := by have := HN.out; omega
          obtain ⟨q0, q1⟩ := HBD.out k (by omega)
          have hx := HND.out l[k] (List.getElem_mem hkl)
          have HA := Lib.hid (tmA_at (g := g) hkl)
          have hc1 := (BB.out.cell (p := ⟨b, o + k, none⟩) hlt0).trans (HC.out k hkl)
          have HNX : Hid (Fil (wr.setCell ⟨w.heap.size, k, none⟩ (.int .i64 (tmA l g k))) w.heap.size w.heap.size n L (k + 1)) := by
            show Fil _ _ _ _ _ _
            rw [← HAT.out k (by have := HL.out; omega)]
            exact FF.out.next HL.out hlt
          generalize l[k] = x at *
          have hg := HG.out
          have w1 : IntKind.i64.wrap (x + g) = x + g := IntWalk.i64_in _ (by omega)
          have w2 : IntKind.i64.wrap (tmA l g k + (x + g)) = tmA l g k + (x + g) := IntWalk.i64_in _ (by omega)
          generalize tmA l g k = T at *
          have c0 := FF.out.at0 HL.out hlt
          have c1 := FF.out.fz HL.out hlt
          have hne : (b == w.heap.size) = false := by simp; omega
          go_wp2_with fail
          first | go_roundw | (go_region; go_wp2_with fail; go_roundw)
          case rel => exact ⟨k + 1, by omega, by go_num, by rw [HA.out], HNX.out, BB.out.setCell (Nat.le_refl _) _⟩
          case measure => simp [intOf]; omega
        · obtain rfl : k = n := by omega
          have HO := Lib.hid (FF.out.own HL.out)
          go_wp2_with fail
          go_ret3
          exact ⟨_, rfl, HO.out, BB.out⟩
end Go.Proofs.Ytjhgkkecconcaab
