/- The program's TakeRange. -/
import Derived.Test.YtcihogbkfpcfjaaClj
import Derived.Test.YtcihogbkfpcfjaaRuns
import Derived.Test.YtcihogbkfpcfjaaRd
namespace Go.Proofs.Ytcihogbkfpcfjaa
open Go Go.RowKit
set_option linter.unusedVariables false


set_option maxRecDepth 100000 in
set_option maxHeartbeats 1000000 in
theorem takeRange_impl (a n : Int) (w : World) :
    Calls Try.prog 25 #[.int .i64 a, .int .i64 n] w fun e w' => e = .returned (.tuple #[.int .i64 (tkLo (tkL a n)), .int .i64 (tkHi (tkL a n)), .bool (decide (0 < tkLo (tkL a n)))]) ∧ Below w.heap.size w w' := by
  obtain ⟨i0, hi, hz0, hz1, hz2⟩ := info_parts Try.infoInt
  have HT := Lib.hid (fun x W => isTol_impl a x n W)
  have HY := Lib.hid (fun k => @tks_yes a n k)
  have HN := Lib.hid (fun k => @tks_no a n k)
  have HLN := Lib.hid (tks_len a n)
  have HL : Hid (tkL a n = tks a n 999) := rfl
  have HP := Lib.hid (tkL_ok a n)
  obtain ⟨LL, hLL⟩ : ∃ LL, LL = tkL a n := ⟨_, rfl⟩
  rw [← hLL] at HL HP ⊢
  clear hLL
  go_enter Try.func25, Try.ntmps25
  go_wp2_with fail
  go_loopw [7, 8] (fun v i wr => ∃ k : Nat, k ≤ 999 ∧ i = .int .i64 ((k : Int) + 2) ∧ wr.ownsRow w.heap.size 2 1 v (tks a n k).length (intVals (tks a n k)) ∧ Below w.heap.size w wr) (fun _ i _ => 1001 - (intOf i).toNat)
  case atStart => exact ⟨0, by omega, rfl, World.ownsRow_nil _ _ _ _, Below.refl _ _⟩
  case round =>
    obtain ⟨k, hk, rfl, hown, hb⟩ := hrel
    have HO := Lib.hid hown
    have HB := Lib.hid hb
    clear hown hb
    by_cases hlt : k < 999
    · have hk1 : (k : Int) + 2 ≤ 1000 := by omega
      have HTk := Lib.hid (HT.out ((k : Int) + 2))
      have HYk := Lib.hid (HY.out k)
      have HNk := Lib.hid (HN.out k)
      have hlen := HLN.out k
      clear HY HN HLN HT HP HL
      cases ht : tolV a ((k : Int) + 2) n
      · have HX := Lib.hid (HNk.out ht)
        rw [ht] at HTk
        clear ht HYk HNk
        go_wp2_with fail
        refine (HTk.out _).mono ?_; rintro e w1 ⟨rfl, hb1⟩
        have HB1 := Lib.hid (HB.out.trans (hb1.mono HB.out.size))
        have HO1 := Lib.hid (own_below HO.out hb1)
        clear hb1
        go_wp2_with fail
        go_roundw
        case rel => exact ⟨k + 1, by omega, by go_num, by rw [HX.out]; exact HO1.out, HB1.out⟩
        case measure => simp [intOf]; omega
      · have HX := Lib.hid (HYk.out ht)
        rw [ht] at HTk
        generalize tks a n k = K at *
        clear ht HYk HNk
        go_wp2_with fail
        refine (HTk.out _).mono ?_; rintro e w1 ⟨rfl, hb1⟩
        have HB1 := Lib.hid (HB.out.trans (hb1.mono HB.out.size))
        have HO1 := Lib.hid (own_below HO.out hb1)
        clear hb1 HO HB
        go_wp2_with (at_builtin; refine wpList_append_lies _ rfl _ _ 22 rfl w.heap.size 2 i0 (.int .i64 0) 1 8 Try.underlying22 hi hz0 hz1 hz2 rfl (by decide) _ _ _ rfl (HO1.out.alloc _) ⟨w1.heap.size, 0, none⟩ 1 1 [.int .i64 ((k : Int) + 2)] rfl rfl ?c1 ?c2 (by decide) ?c3 ?c4 ?c5 (w1.heap.size + 1) (by simp) ?_)
        case c1 => exact c1_int _ _ _
        case c2 => intro u hu; simp at hu; subst hu; rfl
        case c3 => unfold maxLen; omega
        case c4 => omega
        case c5 => have := HB1.out.size; simp; omega
        intro g cap w2 hown2 hgrow hat hlt2
        have hb2 := below_cons HB1.out HB1.out.size HO1.out hgrow
        have HB2 := Lib.hid hb2
        have HO2 : Hid (w2.ownsRow w.heap.size 2 1 (.slice (some ⟨g, 0, none⟩) (K.length + 1) cap) (tks a n (k + 1)).length (intVals (tks a n (k + 1)))) := by
          show World.ownsRow _ _ _ _ _ _ _
          rw [HX.out, List.length_append, ← intVals_snoc]; exact hown2
        clear hown2 hgrow hat hlt2 hb2
        go_wp2_with fail
        go_roundw
        case rel => exact ⟨k + 1, by omega, by go_num, HO2.out, HB2.out⟩
        case measure => simp [intOf]; omega
    · obtain rfl : k = 999 := by omega
      rw [← HL.out] at HO
      clear HY HN HLN HT HL
      by_cases hz : LL = []
      · subst hz
        obtain ⟨A, c, hA⟩ := own_shape HO.out
        subst hA
        have hl0 : ([] : List Int).length = 0 := rfl
        go_wp2_with fail
        go_ret3
        exact ⟨rfl, HB.out⟩
      · have hne : LL.length ≠ 0 := by intro h; exact hz (List.length_eq_zero_iff.1 h)
        obtain ⟨g, c, rfl, hg1, hg2, hc1, hc2⟩ := own_some HO.out (by omega)
        have hlen := own_len HO.out
        unfold maxLen at hlen
        have c0 := HO.out.cellAt 0 (by omega)
        have c1 := HO.out.cellAt (LL.length - 1) (by omega)
        rw [intVals_at _ _ (by omega)] at c0 c1
        have HLO : Hid (tkLo LL = LL[0]'(by omega)) := by
          show _ = _
          unfold tkLo
          cases LL with
          | nil => exact absurd rfl hz
          | cons x t => rfl
        have HHI : Hid (tkHi LL = LL[LL.length - 1]'(by omega)) := by
          show _ = _
          unfold tkHi
          rw [List.getLastD_eq_getLast?, List.getLast?_eq_getElem?, List.getElem?_eq_getElem (by omega)]; rfl
        have HPP := Lib.hid (HP.out.1 hz)
        clear HP hz
        generalize LL[0]'(by omega) = lo at *
        generalize LL[LL.length - 1]'(by omega) = hx at *
        obtain ⟨m, hm⟩ : ∃ m, m = LL.length := ⟨_, rfl⟩
        rw [← hm] at c1 hne hlen hc1 HO ⊢
        have n1 : IntKind.i64.wrap ((m : Int) - 1) = (m : Int) - 1 := IntWalk.i64_in _ (by omega)
        have n2 : (0 : Int) ≤ (m : Int) - 1 := by omega
        have n3 : (m : Int) - 1 < (m : Int) := by omega
        have n4 : ((m : Int) - 1).toNat = m - 1 := by omega
        have n5 : (0 : Int) < (m : Int) := by omega
        have n6 : ((m : Int) == 0) = false := beq_f (by omega)
        clear hm
        go_wp2_with fail
        go_quiet (fail)
        go_wp2_with fail
        go_ret3
        exact ⟨ret_iib HLO.out.symm HHI.out.symm (decide_eq_true HPP.out).symm, below_drewN HB.out _⟩
end Go.Proofs.Ytcihogbkfpcfjaa
