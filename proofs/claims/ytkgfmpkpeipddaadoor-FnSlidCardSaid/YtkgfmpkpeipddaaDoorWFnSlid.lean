/- The walk of the law FnSlid. -/
import Derived.Test.YtkgfmpkpeipddaaDoorSlp
import Derived.Test.YtkgfmpkpeipddaaDoorSlj
import Derived.Test.YtkgfmpkpeipddaaDoorR8b
import Derived.Test.YtkgfmpkpeipddaaDoorR8a
import Derived.Test.YtkgfmpkpeipddaaDoorR8l
import Derived.Test.YtkgfmpkpeipddaaDoorErv
namespace Go.Proofs.YtkgfmpkpeipddaaDoor
open Go Go.RowKit
set_option linter.unusedVariables false

theorem rdv_keepB {w w' : World} {v : Value} {l : List Value} (h : RdV (· < w.heap.size) w v l) (hb : Below w.heap.size w w') : RdV (· < w'.heap.size) w' v l := by
  obtain ⟨A, n, c, e, hn, h1, h2, h3⟩ := h.keep hb
  refine ⟨A, n, c, e, hn, h1, h2, fun h0 => ?_⟩
  obtain ⟨b, o, ea, hK, hlt, hc⟩ := h3 h0
  exact ⟨b, o, ea, hlt, hlt, hc⟩
theorem ba_app (a b : List UInt8) : (⟨a.toArray⟩ : ByteArray) ++ ⟨b.toArray⟩ = ⟨(a ++ b).toArray⟩ := by
  apply ByteArray.ext
  simp
theorem below_dn {B : Nat} {w w' : World} (h : Below B w w') (q : Nat) : Below B w (w'.drewN q) := ⟨h.os, h.tape, h.output, by simpa using h.size, fun k hk => by simpa using h.block k hk⟩

theorem inR_slL {B T : Nat} {up : Bool} {l : List UInt8} (h : inR 48 49 l = true) : inR 48 49 (slL B T up l) = true := by
  unfold inR at *
  rw [List.all_eq_true] at *
  intro x hx
  unfold slL slT at hx
  obtain ⟨j, hj, rfl⟩ := List.mem_map.1 hx
  have hjl : j < l.length := by simpa using hj
  by_cases h1 : dlN B T up j ≤ j
  · rw [if_pos h1, List.getD_eq_getElem?_getD, List.getElem?_eq_getElem (by omega)]
    exact h _ (List.getElem_mem _)
  · rw [if_neg h1]; decide

set_option maxHeartbeats 4000000 in
set_option maxRecDepth 100000 in
theorem law_FnSlid (v0 : Value) (l0 : List Value) (k0 : ∀ x ∈ l0, ∃ y : Int, x = .int .u8 y ∧ 0 ≤ y ∧ y ≤ 255) (v1 : Value) (l1 : List Value) (k1 : ∀ x ∈ l1, ∃ y : Int, x = .int .u8 y ∧ 0 ≤ y ∧ y ≤ 255) (w : World)
    {x0 : Addr} (e0 : Ev 0 x0 w) {x1 : Addr} (e1 : Ev 1 x1 w) (r0 : RdV (· < w.heap.size) w v0 l0) (r1 : RdV (· < w.heap.size) w v1 l1) :
    Calls Tryd.prog 13 #[v0, v1] w fun e w' => e = .returned (.bool true) ∧ Below w.heap.size w w' := by
  have HR0 := Lib.hid r0
  have HR1 := Lib.hid r1
  have HK1 := Lib.hid k1
  have HE0 := Lib.hid e0
  have HE1 := Lib.hid e1
  obtain ⟨y0, ⟨y00, y01⟩, hy0⟩ := r8At_is w v0 l0 0 5 (by omega) r0 k0
  obtain ⟨y1, ⟨y10, y11⟩, hy1⟩ := r8At_is w v0 l0 1 3 (by omega) r0 k0
  obtain ⟨A0, n0, c0, rfl, hn0, -⟩ := r0
  obtain ⟨A1, n1, c1, rfl, hn1, -⟩ := r1
  clear k0 k1 hn0 hn1 e0 e1
  have HL := Lib.hid (fun W => r8Long_any W A0 A1 n0 c0 n1 c1)
  by_cases hz : 48 < n0 ∨ 48 < n1
  · have hz' : (decide (48 < n0) || decide (48 < n1)) = true := by rcases hz with h | h <;> simp [h]
    rw [hz'] at HL
    clear hz hz' hy0 hy1
    go_enter Tryd.func13, Tryd.ntmps13
    go_wp2_with fail
    refine (HL.out _).mono ?_; rintro e w1 ⟨rfl, q, rfl⟩
    go_wp2_with fail
    go_ret
    exact ⟨rfl, below_dn (Below.refl _ _) q⟩
  · have hz' : (decide (48 < n0) || decide (48 < n1)) = false := by simp; omega
    rw [hz'] at HL
    have HY0 : Hid (∀ W, Below w.heap.size w W → Calls Tryd.prog 33 #[.slice A0 n0 c0, .int .i64 0, .int .i64 5] W fun e w' => e = .returned (.int .i64 y0) ∧ W = w') := hy0
    have HY1 : Hid (∀ W, Below w.heap.size w W → Calls Tryd.prog 33 #[.slice A0 n0 c0, .int .i64 1, .int .i64 3] W fun e w' => e = .returned (.int .i64 y1) ∧ W = w') := hy1
    obtain ⟨B, hB⟩ : ∃ B : Nat, (B : Int) = 1 + y0 := ⟨(1 + y0).toNat, by omega⟩
    obtain ⟨T, hT⟩ : ∃ T : Nat, (T : Int) = 1 + y1 := ⟨(1 + y1).toNat, by omega⟩
    have wa : IntKind.i64.wrap (1 + y0) = (B : Int) := by rw [hB]; exact IntWalk.i64_in _ (by omega)
    have wb : IntKind.i64.wrap (1 + y1) = (T : Int) := by rw [hT]; exact IntWalk.i64_in _ (by omega)
    have hB5 : 1 ≤ B ∧ B ≤ 5 := by omega
    have hT3 : 1 ≤ T ∧ T ≤ 3 := by omega
    obtain ⟨D, hD⟩ : ∃ D, D = (B - 1) * T * B := ⟨_, rfl⟩
    obtain ⟨B1, hB1⟩ : ∃ B1, B1 = B - 1 := ⟨_, rfl⟩
    obtain ⟨Q, hQ⟩ : ∃ Q, Q = B1 * B := ⟨_, rfl⟩
    have hQ20 : Q ≤ 20 := by rw [hQ]; exact Nat.mul_le_mul (show B1 ≤ 4 by omega) (show B ≤ 5 by omega)
    have hDQ : D = Q * T := by rw [hD, hQ, ← hB1, Nat.mul_assoc, Nat.mul_comm T B, ← Nat.mul_assoc]
    have hD60 : D ≤ 60 := by rw [hDQ]; exact Nat.mul_le_mul hQ20 hT3.2
    have wc : IntKind.i64.wrap ((B : Int) - 1) = (B1 : Int) := by rw [IntKind.wrap_i64]; omega
    have wd : IntKind.i64.wrap ((B1 : Int) * (B : Int)) = (Q : Int) := by rw [hQ, Int.natCast_mul]; exact IntWalk.i64_in _ (by rw [← Int.natCast_mul, ← hQ]; omega)
    have we : IntKind.i64.wrap ((Q : Int) * (T : Int)) = (D : Int) := by rw [hDQ, Int.natCast_mul]; exact IntWalk.i64_in _ (by rw [← Int.natCast_mul, ← hDQ]; omega)
    have hsd : sdB (B : Int) (T : Int) = true := by unfold sdB; rw [decide_eq_true (by omega), decide_eq_true (by omega)]; rfl
    have HSD := Lib.hid (fun W (h : Below w.heap.size w W) => slideDelay_impl (B : Int) (T : Int) W x0 (HE0.out.keep h))
    rw [hsd, sd_yes hsd, Int.toNat_natCast, Int.toNat_natCast, ← hD] at HSD
    have HBK := Lib.hid (fun L => slid_back B T D L (by omega) hD)
    have HSI := Lib.hid (fun (s : ByteArray) W (hs : s.size ≤ maxLen) (h : Below w.heap.size w W) => slideI_impl (B : Int) (T : Int) s W hs x0 x1 (HE0.out.keep h) (HE1.out.keep h))
    have HSJ := Lib.hid (fun (s : ByteArray) W (hs : s.size ≤ maxLen) (h : Below w.heap.size w W) => slideD_impl (B : Int) (T : Int) s W hs x0 x1 (HE0.out.keep h) (HE1.out.keep h))
    have HSB := Lib.hid hsd
    clear hz hz' hy0 hy1 hB hT hB1 hQ hDQ hQ20 hD hsd y00 y01 y10 y11
    go_enter Tryd.func13, Tryd.ntmps13
    go_wp2_with fail
    refine (HL.out _).mono ?_; rintro e w1 ⟨rfl, q, rfl⟩
    have B1' : Hid (Below w.heap.size w (w.drewN q)) := below_dn (Below.refl _ _) q
    go_wp2_with fail
    refine (HY0.out _ B1'.out).mono ?_; rintro e w' ⟨rfl, rfl⟩
    go_wp2_with fail
    refine (HY1.out _ B1'.out).mono ?_; rintro e w' ⟨rfl, rfl⟩
    go_wp2_with fail
    refine (r8Bits_any _ _ _ 60 (by omega) (rdv_keepB HR1.out B1'.out) HK1.out).mono ?_; rintro e w2 ⟨L, rfl, ⟨hL60, hLin⟩, hb2⟩
    have B2 := Lib.hid (B1'.out.trans (hb2.mono B1'.out.size))
    clear hb2 B1' HY0 HY1 wa wb HL
    go_wp2_with fail
    refine (HSD.out _ B2.out).mono ?_; rintro e w3 ⟨rfl, hb3⟩
    have B3 := Lib.hid (B2.out.trans (hb3.mono B2.out.size))
    clear hb3 B2
    have HLI := Lib.hid hLin
    clear hLin
    go_wp2_with fail
    clear wc wd we
    go_loopw [10, 11, 12] (fun lo wa i wr => ∃ k : Nat, k ≤ D ∧ i = .int .i64 (k : Int) ∧ lo = .string ⟨(L ++ List.replicate k 48).toArray⟩ ∧ wa = .string ⟨(List.replicate k 48).toArray⟩ ∧ Below w.heap.size w wr) (fun _ _ i _ => D - (intOf i).toNat)
    case atStart => exact ⟨0, Nat.zero_le _, rfl, by rw [List.replicate_zero, List.append_nil], rfl, B3.out⟩
    case round =>
      obtain ⟨k, hk, rfl, rfl, rfl, hb⟩ := hrel
      have HB := Lib.hid hb
      clear hb B3
      by_cases hlt : k < D
      · obtain ⟨S1, hS1⟩ : ∃ S1 : ByteArray, S1 = ⟨(L ++ List.replicate k (48 : UInt8)).toArray⟩ := ⟨_, rfl⟩
        obtain ⟨S2, hS2⟩ : ∃ S2 : ByteArray, S2 = ⟨(List.replicate k (48 : UInt8)).toArray⟩ := ⟨_, rfl⟩
        obtain ⟨N1, hN1⟩ : ∃ N1 : ByteArray, N1 = ⟨(L ++ List.replicate (k + 1) (48 : UInt8)).toArray⟩ := ⟨_, rfl⟩
        obtain ⟨N2, hN2⟩ : ∃ N2 : ByteArray, N2 = ⟨(List.replicate (k + 1) (48 : UInt8)).toArray⟩ := ⟨_, rfl⟩
        have r1 : ∀ W : World, (Op.stringOp .add S1 ⟨#[48]⟩).run Tryd.prog W = .ok (.string N1) W := fun W => by
          have hs : S1.size = L.length + k := by rw [hS1]; show (L ++ List.replicate k (48 : UInt8)).toArray.size = _; simp
          rw [run_string_add_sum W _ _ (by rw [hs]; show L.length + k + 1 ≤ _; omega), hS1, hN1]
          have := ba_app (L ++ List.replicate k (48 : UInt8)) [48]
          rw [List.append_assoc, ← List.replicate_succ'] at this
          rw [← this]
        have r2 : ∀ W : World, (Op.stringOp .add S2 ⟨#[48]⟩).run Tryd.prog W = .ok (.string N2) W := fun W => by
          have hs : S2.size = k := by rw [hS2]; show (List.replicate k (48 : UInt8)).toArray.size = _; simp
          rw [run_string_add_sum W _ _ (by rw [hs]; show k + 1 ≤ _; omega), hS2, hN2]
          have := ba_app (List.replicate k (48 : UInt8)) [48]
          rw [← List.replicate_succ'] at this
          rw [← this]
        rw [← hS1, ← hS2]
        have HN1 := Lib.hid hN1
        have HN2 := Lib.hid hN2
        clear hS1 hS2 hN1 hN2
        go_wp2_with fail
        go_roundw
        case rel => exact ⟨k + 1, by omega, by go_num, by rw [HN1.out], by rw [HN2.out], HB.out⟩
        case measure => simp [intOf]; omega
      · obtain rfl : k = D := by omega
        have hb1 : isB (L ++ List.replicate k (48 : UInt8)) = true := by
          unfold isB inR
          rw [decide_eq_true (by simp; omega), List.all_append]
          have := HLI.out
          unfold inR at this
          rw [this]
          simp
        have hl1 : (L ++ List.replicate k (48 : UInt8)).length = L.length + k := by simp
        have hb2 : isB (slL B T true (L ++ List.replicate k (48 : UInt8))) = true := by
          have h1 : _ ∧ _ := Bool.and_eq_true_iff.1 hb1
          unfold isB
          rw [inR_slL h1.2, decide_eq_true (by rw [slL_len]; exact of_decide_eq_true h1.1)]; rfl
        have ho1 : slOk (B : Int) (T : Int) (L ++ List.replicate k (48 : UInt8)) = true := by unfold slOk; rw [HSB.out, hb1]; rfl
        have ho2 : slOk (B : Int) (T : Int) (slL B T true (L ++ List.replicate k (48 : UInt8))) = true := by unfold slOk; rw [HSB.out, hb2]; rfl
        have H1 := Lib.hid (fun W h => HSI.out ⟨(L ++ List.replicate k (48 : UInt8)).toArray⟩ W (by show (L ++ List.replicate k (48 : UInt8)).toArray.size ≤ _; rw [List.size_toArray, hl1]; unfold maxLen; omega) h)
        rw [show (⟨(L ++ List.replicate k (48 : UInt8)).toArray⟩ : ByteArray).data.toList = L ++ List.replicate k (48 : UInt8) from rfl, ho1, sl_yes ho1, Int.toNat_natCast, Int.toNat_natCast] at H1
        have hl2 : (slL B T true (L ++ List.replicate k (48 : UInt8))).length = L.length + k := by rw [slL_len, hl1]
        have H2 := Lib.hid (fun W h => HSJ.out ⟨(slL B T true (L ++ List.replicate k (48 : UInt8))).toArray⟩ W (by show (slL B T true (L ++ List.replicate k (48 : UInt8))).toArray.size ≤ _; rw [List.size_toArray, hl2]; unfold maxLen; omega) h)
        rw [show (⟨(slL B T true (L ++ List.replicate k (48 : UInt8))).toArray⟩ : ByteArray).data.toList = slL B T true (L ++ List.replicate k (48 : UInt8)) from rfl, ho2, sl_yes ho2, Int.toNat_natCast, Int.toNat_natCast, HBK.out] at H2
        obtain ⟨Z, hZ⟩ : ∃ Z : ByteArray, Z = ⟨(List.replicate k (48 : UInt8) ++ L).toArray⟩ := ⟨_, rfl⟩
        obtain ⟨S1, hS1⟩ : ∃ S1 : ByteArray, S1 = ⟨(L ++ List.replicate k (48 : UInt8)).toArray⟩ := ⟨_, rfl⟩
        obtain ⟨S2, hS2⟩ : ∃ S2 : ByteArray, S2 = ⟨(List.replicate k (48 : UInt8)).toArray⟩ := ⟨_, rfl⟩
        obtain ⟨S3, hS3⟩ : ∃ S3 : ByteArray, S3 = ⟨(slL B T true (L ++ List.replicate k (48 : UInt8))).toArray⟩ := ⟨_, rfl⟩
        have z1 : S1.size = L.length + k := by rw [hS1]; show (L ++ List.replicate k (48 : UInt8)).toArray.size = _; rw [List.size_toArray, hl1]
        have z3 : S3.size = L.length + k := by rw [hS3]; show (slL B T true (L ++ List.replicate k (48 : UInt8))).toArray.size = _; rw [List.size_toArray, hl2]
        have r3 : ∀ W : World, (Op.stringOp .add S2 ⟨L.toArray⟩).run Tryd.prog W = .ok (.string Z) W := fun W => by
          have hs : S2.size = k := by rw [hS2]; show (List.replicate k (48 : UInt8)).toArray.size = _; simp
          have hs2 : (⟨L.toArray⟩ : ByteArray).size = L.length := by show L.toArray.size = _; simp
          rw [run_string_add_sum W _ _ (by rw [hs, hs2]; omega), hS2, hZ, ba_app]
        rw [← hS1, ← hS2]
        rw [← hS1, ← hS3] at H1
        rw [← hS3, ← hZ] at H2
        clear hb1 hl1 hb2 ho1 ho2 hl2 hZ hS1 hS2 hS3 HSI HSJ HSD HBK HSB hlt hk
        go_wp2_with fail
        refine (H1.out _ HB.out).mono ?_; rintro e w4 ⟨rfl, hb4⟩
        have HB4 := Lib.hid (HB.out.trans (hb4.mono HB.out.size))
        clear hb4 HB H1
        go_wp2_with fail
        refine (H2.out _ HB4.out).mono ?_; rintro e w5 ⟨rfl, hb5⟩
        have HB5 := Lib.hid (HB4.out.trans (hb5.mono HB4.out.size))
        clear hb5 HB4 H2
        go_wp2_with fail
        go_ret
        exact ⟨by simp, HB5.out⟩
end Go.Proofs.YtkgfmpkpeipddaaDoor
