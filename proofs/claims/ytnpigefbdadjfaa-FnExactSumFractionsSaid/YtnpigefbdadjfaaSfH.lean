/- The law's copy of a list of fractions: its loop. -/
import Derived.Test.YtnpigefbdadjfaaSfG
import Derived.Test.YtnpigefbdadjfaaSfE
namespace Go.Proofs.Ytnpigefbdadjfaa
open Go Go.RowKit
set_option linter.unusedVariables false

theorem fpart_at {l : List (Int × Int)} {n k : Nat} (hl : l.length = n) (hk : k < n) : (fpart l n k)[k * 2]? = some (.int .i64 0) ∧ (fpart l n k)[k * 2 + 1]? = some (.int .i64 0) := by
  have e : (flF (l.take k)).length = k * 2 := by rw [flF_len, List.length_take]; omega
  unfold fpart
  rw [List.getElem?_append_right (by omega), List.getElem?_append_right (by omega), e, Nat.sub_self, show k * 2 + 1 - k * 2 = 1 by omega, show (n - k) * 2 = (n - (k + 1)) * 2 + 1 + 1 by omega, List.replicate_succ, List.replicate_succ]
  exact ⟨rfl, rfl⟩
theorem fpart_zero (l : List (Int × Int)) (n : Nat) : fpart l n 0 = List.replicate (n * 2) (.int .i64 0) := by simp [fpart, flF]
theorem fpart_full {l : List (Int × Int)} {n : Nat} (hl : l.length = n) : fpart l n n = flF l := by
  unfold fpart
  rw [Nat.sub_self, List.take_of_length_le (by omega)]; simp
theorem rdF_bk {W : World} {g : Nat} {l : List (Int × Int)} (h : Bk W g (flF l)) (n : Nat) (hn : l.length = n) : RdF W (.slice (some ⟨g, 0, none⟩) n n) l := by
  refine ⟨_, n, n, rfl, hn, fun h0 => ⟨g, 0, rfl, h.2.2, fun i hi => ?_⟩⟩
  rw [Nat.zero_add]
  exact ⟨h.c _ _ (flF_at l i hi).1, h.c _ _ (flF_at l i hi).2⟩
set_option maxRecDepth 100000 in
set_option maxHeartbeats 2000000 in
theorem toFracs_any (w : World) (v : Value) (l : List (Int × Int)) (h : RdF w v l) (hl : l.length ≤ 1048576) :
    Calls Try.prog 34 #[v] w fun e w' => e = .returned (.slice (some ⟨w.heap.size, 0, none⟩) l.length l.length) ∧ RdF w' (.slice (some ⟨w.heap.size, 0, none⟩) l.length l.length) l ∧ Below w.heap.size w w' := by
  obtain ⟨A, n, c, rfl, hn, r⟩ := h
  rw [hn] at hl ⊢
  have HR := Lib.hid r
  have HN := Lib.hid hn
  have hmk := make_frac n hl w
  have K0 : Hid (Bk (w.alloc (.cells (List.replicate (n * 2) (Value.int .i64 0)).toArray 56)) w.heap.size (fpart l n 0)) := by
    show Bk _ _ _
    rw [fpart_zero]; exact Bk.new _ _ _ _ rfl
  have B0 := Lib.hid (balloc (Below.refl w.heap.size w) (.cells (List.replicate (n * 2) (Value.int .i64 0)).toArray 56))
  clear r hn
  go_enter Try.func34, Try.ntmps34
  go_wp2_with fail
  go_loopw [4] (fun i wr => ∃ k : Nat, k ≤ n ∧ i = .int .i64 k ∧ Bk wr w.heap.size (fpart l n k) ∧ Below w.heap.size w wr) (fun i _ => n - (intOf i).toNat)
  case atStart => exact ⟨0, Nat.zero_le _, rfl, K0.out, B0.out⟩
  case round =>
    obtain ⟨k, hk, rfl, hK, hb⟩ := hrel
    by_cases hlt : k < n
    · obtain ⟨b, o, rfl, hb0, hc⟩ := HR.out (by omega)
      have hkl : k < l.length := by have := HN.out; omega
      obtain ⟨d0, d1⟩ := hc k hkl
      have d0 := (hb.cell (p := ⟨b, o + k * 2, none⟩) hb0).trans d0
      have d1 := (hb.cell (p := ⟨b, o + k * 2 + 1, none⟩) hb0).trans d1
      have hln := HN.out
      have HS : Hid (((fpart l n k).set (k * 2) (.int .i64 (l[k]'hkl).1)).set (k * 2 + 1) (.int .i64 (l[k]'hkl).2) = fpart l n (k + 1)) := fpart_set hln hlt
      have ha := fpart_at hln hlt
      have hlen : (fpart l n k).length = n * 2 := fpart_len hln (by omega)
      clear hc hln
      generalize (l[k]'hkl).1 = x at *
      generalize (l[k]'hkl).2 = y at *
      have i1 : (0 : Int) ≤ (k : Int) := by omega
      have i2 : (k : Int) < (n : Int) := by omega
      go_wp2_with fail
      refine (toFraction_any x y _).mono ?_; rintro e w1 ⟨rfl, hb1⟩
      have hK1 := hK.keep hb1
      have z0 := hK1.c (k * 2) _ ha.1
      have z1 := hK1.c (k * 2 + 1) _ ha.2
      have f0 := hK1.f (k * 2) (by omega)
      have f1 := hK1.f (k * 2 + 1) (by omega)
      have HK : Hid (Bk ((w1.setCell ⟨w.heap.size, k * 2, none⟩ (.int .i64 x)).setCell ⟨w.heap.size, k * 2 + 1, none⟩ (.int .i64 y)) w.heap.size (fpart l n (k + 1))) := by
        show Bk _ _ _
        rw [← HS.out]
        exact (hK1.set (k * 2) (by omega) _).set (k * 2 + 1) (by rw [List.length_set]; omega) _
      have HB := Lib.hid (((bnext hb hb1).setCell (p := ⟨w.heap.size, k * 2, none⟩) (Nat.le_refl _) (.int .i64 x)).setCell (p := ⟨w.heap.size, k * 2 + 1, none⟩) (Nat.le_refl _) (.int .i64 y))
      clear hK hK1 hb hb1 ha hlen d0 d1
      go_wp2_with fail
      go_roundw
      case rel => exact ⟨k + 1, by omega, by go_num, HK.out, HB.out⟩
      case measure => simp [intOf]; omega
    · obtain rfl : k = n := by omega
      rw [fpart_full HN.out] at hK
      go_wp2_with fail
      go_ret
      exact ⟨rfl, rdF_bk hK _ HN.out, hb⟩
end Go.Proofs.Ytnpigefbdadjfaa
