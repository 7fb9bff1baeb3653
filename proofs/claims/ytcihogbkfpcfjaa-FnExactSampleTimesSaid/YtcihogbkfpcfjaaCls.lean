/- Both SampleTimes. -/
import Derived.Test.YtcihogbkfpcfjaaCli
import Derived.Test.YtcihogbkfpcfjaaMki
import Derived.Test.YtcihogbkfpcfjaaRuns
namespace Go.Proofs.Ytcihogbkfpcfjaa
open Go Go.RowKit
set_option linter.unusedVariables false


theorem smV_no {a b n : Int} (h : tkB a = false ∨ tkB b = false ∨ cntB n = false) : smV a b n = [] ∧ smOk a b n = false := by
  have e : smOk a b n = false := by unfold smOk tkOk; rcases h with h | h | h <;> rw [h] <;> simp
  exact ⟨by unfold smV; rw [e]; rfl, e⟩
theorem smV_yes {a b n : Int} (h1 : tkB a = true) (h2 : tkB b = true) (h3 : cntB n = true) : smV a b n = smL b n.toNat ∧ smOk a b n = true := by
  have e : smOk a b n = true := by unfold smOk tkOk; rw [h1, h2, h3]; rfl
  exact ⟨by unfold smV; rw [e]; rfl, e⟩
theorem ret_vbS {v u : Value} {c d : Bool} (h : v = u) (h2 : c = d) : Ending.returned (.tuple #[v, .bool c]) = .returned (.tuple #[u, .bool d]) := by rw [h, h2]
theorem smL_at (b : Int) (n k : Nat) (h : k < (smL b n).length) : (smL b n)[k] = 2 * ((k : Int) * b) + b := by
  simp only [smL, List.getElem_map, List.getElem_range]
  rw [Int.add_mul, Int.one_mul, Int.mul_assoc]
set_option maxRecDepth 100000 in
set_option maxHeartbeats 1000000 in
theorem sample_spec (a b n : Int) (w : World) :
    Calls Try.prog 15 #[.int .i64 a, .int .i64 b, .int .i64 n] w fun e w' => ∃ v, e = .returned (.tuple #[v, .bool (smOk a b n)]) ∧ Own w' w.heap.size v (smV a b n) ∧ Below w.heap.size w w' := by
  have HT0 := Lib.hid (l07Ticks_any a w)
  have HT1 := Lib.hid (l07Ticks_any b w)
  have HT2 := Lib.hid (show Calls Try.prog 42 #[.int .i64 n, .int .i64 0, .int .i64 100] w (fun e w' => e = .returned (.bool (cntB n)) ∧ w = w') from in_any n 0 100 w)
  cases g0 : tkB a
  · obtain ⟨e1, e2⟩ := smV_no (a := a) (b := b) (n := n) (.inl g0); rw [e1, e2]; clear e1 e2
    rw [g0] at HT0
    clear g0 HT1 HT2
    go_enter Try.func15, Try.ntmps15
    go_wp2_with fail
    refine HT0.out.mono ?_; rintro e w' ⟨rfl, rfl⟩
    go_wp2_with fail
    go_ret2
    exact ⟨_, rfl, World.ownsRow_nil _ _ _ _, Below.refl _ _⟩
  · skip
    cases g1 : tkB b
    · obtain ⟨e1, e2⟩ := smV_no (a := a) (b := b) (n := n) (.inr (.inl g1)); rw [e1, e2]; clear e1 e2
      rw [g0] at HT0
      rw [g1] at HT1
      clear g0 g1 HT2
      go_enter Try.func15, Try.ntmps15
      go_wp2_with fail
      refine HT0.out.mono ?_; rintro e w' ⟨rfl, rfl⟩
      go_wp2_with fail
      refine HT1.out.mono ?_; rintro e w' ⟨rfl, rfl⟩
      go_wp2_with fail
      go_ret2
      exact ⟨_, rfl, World.ownsRow_nil _ _ _ _, Below.refl _ _⟩
    · skip
      cases g2 : cntB n
      · obtain ⟨e1, e2⟩ := smV_no (a := a) (b := b) (n := n) (.inr (.inr g2)); rw [e1, e2]; clear e1 e2
        rw [g0] at HT0
        rw [g1] at HT1
        rw [g2] at HT2
        clear g0 g1 g2
        go_enter Try.func15, Try.ntmps15
        go_wp2_with fail
        refine HT0.out.mono ?_; rintro e w' ⟨rfl, rfl⟩
        go_wp2_with fail
        refine HT1.out.mono ?_; rintro e w' ⟨rfl, rfl⟩
        go_wp2_with fail
        refine HT2.out.mono ?_; rintro e w' ⟨rfl, rfl⟩
        go_wp2_with fail
        go_ret2
        exact ⟨_, rfl, World.ownsRow_nil _ _ _ _, Below.refl _ _⟩
      · skip
        obtain ⟨i0, hi, hz0, hz1, hz2⟩ := info_parts Try.infoInt
        obtain ⟨e1, e2⟩ := smV_yes g0 g1 g2
        rw [e1, e2]
        clear e1 e2
        have hb := tkB_is g1
        have hn : 0 ≤ n ∧ n ≤ 100 := of_decide_eq_true g2
        obtain ⟨N, rfl⟩ := Int.eq_ofNat_of_zero_le hn.1
        rw [Int.toNat_natCast]
        have hN : N ≤ 100 := by omega
        have HPB := Lib.hid (fun (k M : Int) h0 hk => @prod_bd k b M h0 hk hb.1 hb.2)
        obtain ⟨b0, b1⟩ := hb
        clear hn
        rw [g0] at HT0
        rw [g1] at HT1
        rw [g2] at HT2
        clear g0 g1 g2
        go_enter Try.func15, Try.ntmps15
        go_wp2_with fail
        refine HT0.out.mono ?_; rintro e w' ⟨rfl, rfl⟩
        go_wp2_with fail
        refine HT1.out.mono ?_; rintro e w' ⟨rfl, rfl⟩
        go_wp2_with fail
        refine HT2.out.mono ?_; rintro e w' ⟨rfl, rfl⟩
        go_wp2_with fail
        go_loopw [8, 9] (fun v i wr => ∃ k : Nat, k ≤ N ∧ i = .int .i64 k ∧ wr.ownsRow w.heap.size 2 1 v (smL b k).length (intVals (smL b k)) ∧ Below w.heap.size w wr ∧ w.heap.size ≤ wr.heap.size) (fun _ i _ => N - (intOf i).toNat)
        case atStart => exact ⟨0, Nat.zero_le _, rfl, World.ownsRow_made w #[] 0 (Nat.le_refl _) (by decide) rfl, (Below.refl _ _).alloc (Nat.le_refl _) _, by simp⟩
        case round =>
          obtain ⟨k, hk, rfl, hown, hb, hB⟩ := hrel
          have HO := Lib.hid hown
          have HB := Lib.hid hb
          have hlen : (smL b k).length ≤ 100 := by rw [smL_len]; omega
          have HS := Lib.hid (smL_succ b k)
          clear hown hb
          by_cases hlt : k < N
          · have hk1 : (k : Int) < (N : Int) := by omega
            obtain ⟨p0, p1⟩ := HPB.out (k : Int) 100 (by omega) (by omega)
            have e1 : (2 * (k : Int) + 1) * b = 2 * ((k : Int) * b) + b := by rw [Int.add_mul, Int.one_mul, Int.mul_assoc]
            obtain ⟨X, hX⟩ : ∃ X, X = (2 * (k : Int) + 1) * b := ⟨_, rfl⟩
            have w1 : IntKind.i64.wrap ((2 * (k : Int) + 1) * b) = X := by rw [hX]; exact IntWalk.i64_in _ (by omega)
            rw [← hX] at HS
            generalize smL b k = L at *
            clear e1 hX p0 p1 HPB
            go_wp2_with (at_builtin; refine wpList_append_lies _ rfl _ _ 22 rfl w.heap.size 2 i0 (.int .i64 0) 1 8 Try.underlying22 hi hz0 hz1 hz2 rfl (by decide) _ _ _ rfl (HO.out.alloc _) ⟨wr.heap.size, 0, none⟩ 1 1 [.int .i64 X] rfl rfl ?c1 ?c2 (by decide) ?c3 ?c4 ?c5 (wr.heap.size + 1) (by simp) ?_)
            case c1 => exact c1_int _ _ _
            case c2 => intro u hu; simp at hu; subst hu; rfl
            case c3 => unfold maxLen; omega
            case c4 => omega
            case c5 => simp; omega
            intro g cap w2 hown2 hgrow hat hlt2
            have hb2 := below_cons HB.out HB.out.size HO.out hgrow
            have HB2 := Lib.hid hb2
            have HO2 : Hid (w2.ownsRow w.heap.size 2 1 (.slice (some ⟨g, 0, none⟩) (L.length + 1) cap) (smL b (k + 1)).length (intVals (smL b (k + 1)))) := by
              show World.ownsRow _ _ _ _ _ _ _
              rw [HS.out, List.length_append, ← intVals_snoc]; exact hown2
            clear hown2 hgrow hat hlt2 hb2
            go_wp2_with fail
            go_roundw
            case rel => exact ⟨k + 1, by omega, by go_num, HO2.out, HB2.out, HB2.out.size⟩
            case measure => simp [intOf]; omega
          · obtain rfl : k = N := by omega
            clear HPB HS
            go_wp2_with fail
            go_ret2
            exact ⟨_, rfl, HO.out, HB.out⟩

set_option maxRecDepth 100000 in
set_option maxHeartbeats 1000000 in
theorem sample_impl (a b n : Int) (w : World) :
    Calls Try.prog 16 #[.int .i64 a, .int .i64 b, .int .i64 n] w fun e w' => ∃ v, e = .returned (.tuple #[v, .bool (smOk a b n)]) ∧ Own w' w.heap.size v (smV a b n) ∧ Below w.heap.size w w' := by
  have HVAL := Lib.hid (fun W => areValid_any a b W)
  have HRUN : Hid (∀ W, Calls Try.prog 44 #[.int .i64 n, .int .i64 0, .int .i64 100] W fun e w' => e = .returned (.bool (cntB n)) ∧ W = w') := fun W => is_any n 0 100 W
  obtain ⟨W0, hW0⟩ : ∃ W0, W0 = w.alloc (.cells #[.int .i64 a, .int .i64 b] 46) := ⟨_, rfl⟩
  have HB0 : Hid (Below w.heap.size w W0) := by
    show Below _ _ _
    rw [hW0]
    exact (Below.refl _ _).alloc (Nat.le_refl _) _
  have HK0 : Hid (Bk W0 w.heap.size (ckV a b)) := by
    show Bk _ _ _
    rw [hW0]
    exact Bk.new w (ckV a b) 46 _ rfl
  have HW0 := Lib.hid hW0
  obtain ⟨p0, p1⟩ := ck_two HK0.out
  clear hW0
  cases h1 : tkOk a b
  · have e0 : smOk a b n = false := by unfold smOk; rw [h1]; rfl
    have e1 : smV a b n = [] := by unfold smV; rw [e0]; rfl
    rw [e1, e0]
    rw [h1] at HVAL
    clear e1 e0 h1
    go_enter Try.func16, Try.ntmps16
    go_wp2_with fail
    rw [← HW0.out]
    refine (HVAL.out _).mono ?_; rintro e w1 ⟨rfl, hb1⟩
    have HB1 := Lib.hid (HB0.out.trans (hb1.mono HB0.out.size))
    clear hb1
    go_wp2_with fail
    go_ret2
    exact ⟨_, rfl, World.ownsRow_nil _ _ _ _, HB1.out⟩
  · rw [h1] at HVAL
    cases h2 : cntB n
    · have e0 : smOk a b n = false := by unfold smOk; rw [h1, h2]; rfl
      have e1 : smV a b n = [] := by unfold smV; rw [e0]; rfl
      rw [e1, e0]
      rw [h2] at HRUN
      clear e1 e0 h1 h2
      go_enter Try.func16, Try.ntmps16
      go_wp2_with fail
      rw [← HW0.out]
      refine (HVAL.out _).mono ?_; rintro e w1 ⟨rfl, hb1⟩
      have HB1 := Lib.hid (HB0.out.trans (hb1.mono HB0.out.size))
      clear hb1
      go_wp2_with fail
      refine (HRUN.out _).mono ?_; rintro e w' ⟨rfl, rfl⟩
      go_wp2_with fail
      go_ret2
      exact ⟨_, rfl, World.ownsRow_nil _ _ _ _, HB1.out⟩
    · have e0 : smOk a b n = true := by unfold smOk; rw [h1, h2]; rfl
      have e1 : smV a b n = smL b n.toNat := by unfold smV; rw [e0]; rfl
      have hn : 0 ≤ n ∧ n ≤ 100 := of_decide_eq_true h2
      have hb : tkB b = true := by unfold tkOk at h1; exact (Bool.and_eq_true_iff.1 h1).2
      have hb := tkB_is hb
      obtain ⟨N, rfl⟩ := Int.eq_ofNat_of_zero_le hn.1
      rw [e1, e0, Int.toNat_natCast]
      rw [h2] at HRUN
      have hN : N ≤ 100 := by omega
      have hmk := make_i64 N (by omega)
      have HL := Lib.hid (smL_len b N)
      have HAT := Lib.hid (smL_at b N)
      have HSA := Lib.hid (fun k W h => sampleAt_any a b k W h (show 0 ≤ b ∧ b ≤ 1000 by omega))
      clear e1 e0 hn hb h1 h2
      generalize smL b N = L at *
      go_enter Try.func16, Try.ntmps16
      go_wp2_with fail
      rw [← HW0.out]
      refine (HVAL.out _).mono ?_; rintro e w1 ⟨rfl, hb1⟩
      have HB1 := Lib.hid (HB0.out.trans (hb1.mono HB0.out.size))
      have HK1 := Lib.hid (HK0.out.keep hb1)
      clear hb1 p0 p1
      go_wp2_with fail
      refine (HRUN.out _).mono ?_; rintro e w' ⟨rfl, rfl⟩
      have HF0 := Lib.hid (Fil.start w1 w.heap.size N L HL.out (by omega) HB1.out.size)
      have HB2 := Lib.hid (HB1.out.alloc HB1.out.size (.cells (List.replicate N (Value.int .i64 0)).toArray 2))
      have HK2 := Lib.hid (HK1.out.alloc (.cells (List.replicate N (Value.int .i64 0)).toArray 2))
      have HG : Hid (w.heap.size < w1.heap.size) := HK1.out.2.2
      go_wp2_with fail
      generalize w1.heap.size = G at *
      go_loopw [25] (fun i wr => ∃ k : Nat, k ≤ N ∧ i = .int .i64 k ∧ Bk wr w.heap.size (ckV a b) ∧ Fil wr w.heap.size G N L k ∧ Below w.heap.size w wr) (fun i _ => N - (intOf i).toNat)
      case atStart => exact ⟨0, Nat.zero_le _, rfl, HK2.out, HF0.out, HB2.out⟩
      case round =>
        obtain ⟨k, hk, rfl, hkk, hf, hb⟩ := hrel
        have KK := Lib.hid hkk
        have FF := Lib.hid hf
        have BB := Lib.hid hb
        clear hkk hf hb HF0 HK2 HB2
        by_cases hlt : k < N
        · have hk1 : (k : Int) < (N : Int) := by omega
          have hk0 : (0 : Int) ≤ (k : Int) := by omega
          obtain ⟨q0, q1⟩ := ck_two KK.out
          have HS := Lib.hid (fun W => HSA.out (k : Int) W ⟨by omega, by omega⟩)
          rw [← HAT.out k (by have := HL.out; omega)] at HS
          have HNX : Hid (∀ W, Fil W w.heap.size G N L k → Fil (W.setCell ⟨G, k, none⟩ (.int .i64 (L[k]'(by have := HL.out; omega)))) w.heap.size G N L (k + 1)) := fun W h => h.next HL.out hlt
          generalize L[k]'(by have := HL.out; omega) = X at *
          clear HSA HAT
          go_wp2_with fail
          refine (HS.out _).mono ?_; rintro e w5 ⟨rfl, hb5⟩
          have BB5 := Lib.hid (BB.out.trans (hb5.mono BB.out.size))
          have KK5 := Lib.hid (KK.out.keep hb5)
          have FF5 := Lib.hid (FF.out.keep hb5)
          clear hb5 q0 q1 KK FF BB
          have c0 := FF5.out.at0 HL.out hlt
          have c1 := FF5.out.fz HL.out hlt
          go_wp2_with fail
          go_roundw
          case rel => exact ⟨k + 1, by omega, by go_num, KK5.out.far _ (by have := HG.out; simp; omega) _, HNX.out _ FF5.out, BB5.out.setCell (by have := HG.out; simp; omega) _⟩
          case measure => simp [intOf] <;> omega
        · obtain rfl : k = N := by omega
          have HO := Lib.hid (FF.out.own HL.out)
          clear HSA HAT
          go_wp2_with fail
          go_ret2
          exact ⟨_, rfl, HO.out, BB.out⟩
end Go.Proofs.Ytcihogbkfpcfjaa
