/- The walk of the law FnScrambled. -/
import Derived.Test.YtnpigefbdadjfaaScQ
import Derived.Test.YtnpigefbdadjfaaR8s
import Derived.Test.YtnpigefbdadjfaaR8a
import Derived.Test.YtnpigefbdadjfaaScb
import Derived.Test.YtnpigefbdadjfaaScd
import Derived.Laws.Concat
namespace Go.Proofs.Ytnpigefbdadjfaa
open Go Go.RowKit
set_option linter.unusedVariables false

theorem rdv_keepK {w w' : World} {v : Value} {l : List Value} (h : RdV (· < w.heap.size) w v l) (hb : Below w.heap.size w w') : RdV (· < w'.heap.size) w' v l := by
  obtain ⟨A, n, c, e, hn, h1, h2, h3⟩ := h.keep hb
  refine ⟨A, n, c, e, hn, h1, h2, fun h0 => ?_⟩
  obtain ⟨b, o, ea, hK, hlt, hc⟩ := h3 h0
  exact ⟨b, o, ea, hlt, hlt, hc⟩
theorem sb_two {W : World} {k : Nat} {u : Value} {s : ByteArray} (h : Bk W k [u, .string s]) : W.cell? ⟨k, 0, none⟩ = some u ∧ W.cell? ⟨k, 1, none⟩ = some (.string s) := ⟨h.c 0 _ rfl, h.c 1 _ rfl⟩
theorem isB_of {M : List UInt8} (h : M.length ≤ 400) (h2 : inR 48 49 M = true) : isB M = true := by
  unfold isB; rw [decide_eq_true h, h2]; rfl

set_option maxHeartbeats 8000000 in
set_option maxRecDepth 100000 in
theorem law_FnScrambled (v0 : Value) (l0 : List Value) (k0 : ∀ x ∈ l0, ∃ y : Int, x = .int .u8 y ∧ 0 ≤ y ∧ y ≤ 255) (v1 : Value) (l1 : List Value) (k1 : ∀ x ∈ l1, ∃ y : Int, x = .int .u8 y ∧ 0 ≤ y ∧ y ≤ 255) (w : World) (r0 : RdV (· < w.heap.size) w v0 l0) (r1 : RdV (· < w.heap.size) w v1 l1) :
    Calls Try.prog 4 #[v0, v1] w fun e w' => e = .returned (.bool true) ∧ Below w.heap.size w w' := by
  have HR0 := Lib.hid r0
  have HR1 := Lib.hid r1
  have HK0 := Lib.hid k0
  have HK1 := Lib.hid k1
  obtain ⟨A0, n0, c0, rfl, hn0, -⟩ := r0
  obtain ⟨A1, n1, c1, rfl, hn1, -⟩ := r1
  clear k0 k1 hn0 hn1
  have HL := Lib.hid (fun W => r8Long_any W A0 A1 n0 c0 n1 c1)
  by_cases hz : 48 < n0 ∨ 48 < n1
  · have hz' : (decide (48 < n0) || decide (48 < n1)) = true := by rcases hz with h | h <;> simp [h]
    rw [hz'] at HL
    clear hz hz'
    go_enter Try.func4, Try.ntmps4
    go_wp2_with fail
    refine (HL.out _).mono ?_; rintro e w1 ⟨rfl, q, rfl⟩
    go_wp2_with fail
    go_ret
    exact ⟨rfl, below_drewN (Below.refl _ _) q⟩
  · have hz' : (decide (48 < n0) || decide (48 < n1)) = false := by simp; omega
    rw [hz'] at HL
    clear hz hz'
    go_enter Try.func4, Try.ntmps4
    go_wp2_with fail
    refine (HL.out _).mono ?_; rintro e w1 ⟨rfl, q, rfl⟩
    have B1 : Hid (Below w.heap.size w (w.drewN q)) := below_drewN (Below.refl _ _) q
    go_wp2_with fail
    refine (r8Scrambler_any _ _ _ (rdv_keepK HR0.out B1.out) HK0.out).mono ?_; rintro e w2 ⟨u, s, L, rfl, ⟨hsc, hw7⟩, ho2, hb2⟩
    obtain ⟨Au, cu, rfl⟩ := own_shape ho2
    obtain ⟨w3, hw3⟩ : ∃ w3, w3 = w2.alloc (.cells #[.slice Au L.length cu, .string s] 38) := ⟨_, rfl⟩
    have k3 : Below w2.heap.size w2 w3 := by rw [hw3]; exact (Below.refl _ _).alloc (Nat.le_refl _) _
    have X3 : Hid (Bk w3 w2.heap.size [.slice Au L.length cu, .string s]) := by show Bk _ _ _; rw [hw3]; exact Bk.new w2 [.slice Au L.length cu, .string s] _ _ rfl
    have B3 := Lib.hid ((B1.out.trans (hb2.mono B1.out.size)).trans (k3.mono (Nat.le_trans B1.out.size hb2.size)))
    have R3 := Lib.hid (ho2.rd.keep k3)
    have HW3 := Lib.hid hw3
    obtain ⟨bx, hbx⟩ : ∃ bx, bx = w2.heap.size := ⟨_, rfl⟩
    rw [← hbx] at X3
    have HBX := Lib.hid hbx
    clear hbx
    have HSC := Lib.hid hsc
    obtain ⟨htp, -, hws⟩ := scOk_parts hsc
    have hbdL : ∀ n ∈ L, -9223372036854775808 ≤ n ∧ n ≤ 9223372036854775807 := by
      intro n hn
      obtain ⟨i, hi, rfl⟩ := List.getElem_of_mem hn
      have := tpR_at (tpOk_parts htp).2.2 i hi
      omega
    have hs7 : s.size ≤ 7 := by
      have h2 : s.data.toList.length = s.size := rfl
      omega
    have hssz : s.size ≤ maxLen := by unfold maxLen; omega
    have HWS : Hid (wid L = (s.size : Int)) := by
      show wid L = _
      have h2 : s.data.toList.length = s.size := rfl
      omega
    have HSA := Lib.hid (fun W g hg h => addScramble_impl W (.slice Au L.length cu) L s g hbdL hssz hg h)
    have HSE := Lib.hid (fun W g hg h => selfScramble_impl W (.slice Au L.length cu) L s g hbdL hssz hg h)
    have HSD := Lib.hid (fun W t g ht hg h => selfDescramble_impl W (.slice Au L.length cu) L t g hbdL ht hg h)
    have HLK := Lib.hid (fun W h => lock_impl W (.slice Au L.length cu) L s hbdL hssz h)
    have HVS := Lib.hid (fun W h => validSc_impl W (.slice Au L.length cu) L s hbdL hssz h)
    have hlk : lkV L s.data.toList = (s.size : Int) := by unfold lkV; rw [if_pos hsc]; exact HWS.out
    rw [hlk, hsc] at HLK
    rw [hsc] at HVS
    have HL16 := Lib.hid (tp_len (tpOk_parts htp).2.1 (tpOk_parts htp).2.2)
    clear hsc hw7 ho2 hb2 hw3 k3 B1 htp hws hbdL hssz HL hlk HWS
    obtain ⟨n1', hn1'⟩ : ∃ n1', n1' = L.length := ⟨_, rfl⟩
    clear hn1'
    go_wp2_with fail
    rw [← HW3.out, ← HBX.out]
    refine (r8Bits_any _ _ _ 30 (by decide) (rdv_keepK HR1.out B3.out) HK1.out).mono ?_; rintro e w4 ⟨M, rfl, ⟨hM30, hMin⟩, hb4⟩
    have X4 := Lib.hid (X3.out.keep hb4)
    have R4 := Lib.hid (R3.out.keep hb4)
    have B4 := Lib.hid (B3.out.trans (hb4.mono B3.out.size))
    clear hb4 X3 R3 B3 HW3 HBX
    obtain ⟨G, hG⟩ : ∃ G : ByteArray, G = ⟨M.toArray⟩ := ⟨_, rfl⟩
    rw [← hG]
    have hGs : G.size ≤ 30 := by rw [hG]; show M.toArray.size ≤ 30; rw [List.size_toArray]; exact hM30
    have hGB : isB G.data.toList = true := by rw [hG]; show isB M = true; exact isB_of (by omega) hMin
    clear hG hM30 hMin
    obtain ⟨A, C, ⟨p1, p2, p3, p4, p5⟩, ⟨p6, p7, p8, p9⟩, hT⟩ := scrambled_row HSC.out hGB
    have HT := Lib.hid hT
    have C1 := Lib.hid (fun W h => HSA.out W G (by unfold maxLen; omega) h)
    rw [p1, p2] at C1
    have C2 := Lib.hid (fun W h => HSA.out W A (by unfold maxLen; omega) h)
    rw [p4, p5] at C2
    have C3 := Lib.hid (fun W h => HSE.out W G (by unfold maxLen; omega) h)
    rw [p6, p2] at C3
    have C4 := Lib.hid (fun W h => HSD.out W s C (by unfold maxLen; omega) (by unfold maxLen; omega) h)
    rw [p8, p9] at C4
    have HAS := Lib.hid p3
    have HCS := Lib.hid p7
    clear p1 p2 p3 p4 p5 p6 p7 p8 p9 hT HSA HSE hGB HSC
    obtain ⟨qa, qb⟩ := sb_two X4.out
    go_wp2_with fail
    refine (C1.out _ R4.out).mono ?_; rintro e w5 ⟨rfl, hb5⟩
    have X5 := Lib.hid (X4.out.keep hb5)
    have R5 := Lib.hid (R4.out.keep hb5)
    have B5 := Lib.hid (B4.out.trans (hb5.mono B4.out.size))
    clear hb5 X4 R4 B4 qa qb
    obtain ⟨qa, qb⟩ := sb_two X5.out
    go_wp2_with fail
    refine (C2.out _ R5.out).mono ?_; rintro e w6 ⟨rfl, hb6⟩
    have X6 := Lib.hid (X5.out.keep hb6)
    have R6 := Lib.hid (R5.out.keep hb6)
    have B6 := Lib.hid (B5.out.trans (hb6.mono B5.out.size))
    clear hb6 X5 R5 B5 qa qb
    obtain ⟨qa, qb⟩ := sb_two X6.out
    go_wp2_with fail
    refine (C3.out _ R6.out).mono ?_; rintro e w7 ⟨rfl, hb7⟩
    have X7 := Lib.hid (X6.out.keep hb7)
    have R7 := Lib.hid (R6.out.keep hb7)
    have B7 := Lib.hid (B6.out.trans (hb7.mono B6.out.size))
    clear hb7 X6 R6 B6 qa qb
    obtain ⟨qa, qb⟩ := sb_two X7.out
    go_wp2_with fail
    refine (C4.out _ R7.out).mono ?_; rintro e w8 ⟨rfl, hb8⟩
    have X8 := Lib.hid (X7.out.keep hb8)
    have R8 := Lib.hid (R7.out.keep hb8)
    have B8 := Lib.hid (B7.out.trans (hb8.mono B7.out.size))
    clear hb8 X7 R7 B7 qa qb
    obtain ⟨qa, qb⟩ := sb_two X8.out
    go_wp2_with fail
    refine (HLK.out _ R8.out).mono ?_; rintro e w9 ⟨rfl, hb9⟩
    have X9 := Lib.hid (X8.out.keep hb9)
    have R9 := Lib.hid (R8.out.keep hb9)
    have B9 := Lib.hid (B8.out.trans (hb9.mono B8.out.size))
    clear hb9 X8 R8 B8 qa qb
    clear C1 C2 C3 C4 HLK
    go_wp2_with fail
    go_loopw [17, 18] (fun t i wr => ∃ (k : Nat) (E : List UInt8), k ≤ s.size ∧ i = .int .i64 k ∧ t = .string ⟨E.toArray⟩ ∧ E.length = k ∧ inR 48 49 E = true ∧ Bk wr bx [.slice Au L.length cu, .string s] ∧ Rd wr (.slice Au L.length cu) L ∧ Below w.heap.size w wr) (fun _ i _ => s.size - (intOf i).toNat)
    case atStart => exact ⟨0, [], Nat.zero_le _, rfl, rfl, rfl, rfl, X9.out, R9.out, B9.out⟩
    case round =>
      obtain ⟨k, E, hk, rfl, rfl, hel, hei, hx, hr, hb⟩ := hrel
      have X6 := Lib.hid hx
      have R6 := Lib.hid hr
      have B6 := Lib.hid hb
      have HEI := Lib.hid hei
      have HEL := Lib.hid hel
      clear hx hr hb hei hel X9 R9 B9
      by_cases hlt : k < s.size
      · obtain ⟨a, ⟨a0, a1⟩, ha⟩ := r8At_is w _ l1 k 2 (by decide) HR1.out HK1.out
        have HA : Hid (∀ W, Below w.heap.size w W → Calls Try.prog 25 #[.slice A1 n1 c1, .int .i64 (k : Int), .int .i64 2] W fun e w' => e = .returned (.int .i64 a) ∧ W = w') := ha
        obtain ⟨c, hc⟩ := byte_num (48 + a) (by omega) (by omega)
        have hc1 : 48 ≤ (c.toNat : Int) ∧ (c.toNat : Int) ≤ 49 := by omega
        have wk : IntKind.i64.wrap ((k : Int) + 1) = (k : Int) + 1 := IntWalk.i64_in _ (by omega)
        obtain ⟨x, hx⟩ : ∃ x, x = 48 + a := ⟨_, rfl⟩
        have w1 : IntKind.i64.wrap (48 + a) = x := by rw [hx]; exact IntWalk.i64_in _ (by omega)
        have w2 : IntKind.u8.wrap x = x := IntWalk.u8_in _ (by omega)
        have hcx : (c.toNat : Int) = x := by rw [hx]; exact hc
        have hcv : (convert 22 9 (.slice (some ⟨wr.heap.size, 0, none⟩) 1 1)).run Try.prog (wr.alloc (.cells #[.int .u8 x] 5)) = .ok (.string ⟨#[c]⟩) (wr.alloc (.cells #[.int .u8 x] 5)) := by
          refine run_convert_bytes_back _ _ _ 5 ⟨wr.heap.size, 0, none⟩ 1 [c] Try.underlying22 Try.underlying5 Try.underlying9 (fun j hj => ?_)
          obtain rfl : j = 0 := by simpa using hj
          rw [c1_one wr (.int .u8 x) 5 0 _ rfl]
          exact congrArg (fun y : Int => some (Value.int .u8 y)) hcx.symm
        have r2 : ∀ W : World, (Op.stringOp .add ⟨E.toArray⟩ ⟨#[c]⟩).run Try.prog W = .ok (.string ⟨(E ++ [c]).toArray⟩) W := fun W => by
          rw [run_string_add_sum W _ _ (by show E.toArray.size + 1 ≤ _; rw [List.size_toArray]; have := HEL.out; omega), ByteArray.mk_append_mk]
        have HIN : Hid (inR 48 49 (E ++ [c]) = true) := inR_one HEI.out hc1
        have XN := Lib.hid (X6.out.alloc (.cells #[.int .u8 x] 5))
        have RN := Lib.hid (R6.out.keep ((Below.refl _ _).alloc (Nat.le_refl _) (.cells #[.int .u8 x] 5)))
        have BN := Lib.hid (B6.out.alloc B6.out.size (.cells #[.int .u8 x] 5))
        obtain ⟨qa, qb⟩ := sb_two X6.out
        clear ha hc hx hcx hc1
        go_wp2_with fail
        refine (HA.out _ B6.out).mono ?_; rintro e w' ⟨rfl, rfl⟩
        go_wp2_with fail
        go_roundw
        case rel => exact ⟨k + 1, E ++ [c], by omega, by go_num, rfl, by rw [List.length_append, HEL.out]; rfl, HIN.out, XN.out, RN.out, BN.out⟩
        case measure => simp [intOf]; omega
      · obtain rfl : k = s.size := by omega
        have hes : (⟨E.toArray⟩ : ByteArray).size = s.size := by show E.toArray.size = _; rw [List.size_toArray]; exact HEL.out
        have heB : isB (⟨E.toArray⟩ : ByteArray).data.toList = true := by show isB E = true; exact isB_of (by have := HEL.out; omega) HEI.out
        obtain ⟨Eb, hEb⟩ : ∃ Eb : ByteArray, Eb = ⟨E.toArray⟩ := ⟨_, rfl⟩
        rw [← hEb] at hes heB ⊢
        clear hEb HEI HEL
        obtain ⟨D, p1, p2, p3, p4⟩ := HT.out Eb heB hes
        have HDS := Lib.hid p3
        have HDE := Lib.hid p4
        have C5 := Lib.hid (fun W h => HSD.out W Eb C (by unfold maxLen; omega) (by have := HCS.out; unfold maxLen; omega) h)
        rw [p1, p2] at C5
        clear p1 p2 p3 p4 hes heB hlt HT HSD
        obtain ⟨w7, hw7⟩ : ∃ w7, w7 = wr.alloc (.cells #[.slice Au L.length cu, .string Eb] 38) := ⟨_, rfl⟩
        have k7 : Below wr.heap.size wr w7 := by rw [hw7]; exact (Below.refl _ _).alloc (Nat.le_refl _) _
        have Y7 : Hid (Bk w7 wr.heap.size [.slice Au L.length cu, .string Eb]) := by show Bk _ _ _; rw [hw7]; exact Bk.new wr [.slice Au L.length cu, .string Eb] _ _ rfl
        have X7 := Lib.hid (X6.out.keep k7)
        have R7 := Lib.hid (R6.out.keep k7)
        have B7 := Lib.hid (B6.out.trans (k7.mono B6.out.size))
        obtain ⟨by_, hby⟩ : ∃ by_, by_ = wr.heap.size := ⟨_, rfl⟩
        rw [← hby] at Y7
        obtain ⟨qa, qb⟩ := sb_two X6.out
        have HW7 := Lib.hid hw7
        have HBY := Lib.hid hby
        clear hw7 k7 hby
        go_wp2_with fail
        rw [← HW7.out, ← HBY.out]
        clear qa qb
        obtain ⟨qa, qb⟩ := sb_two Y7.out
        go_wp2_with fail
        refine (C5.out _ R7.out).mono ?_; rintro e w8 ⟨rfl, hb8⟩
        have X8 := Lib.hid (X7.out.keep hb8)
        have R8 := Lib.hid (R7.out.keep hb8)
        have B8 := Lib.hid (B7.out.trans (hb8.mono B7.out.size))
        clear hb8 X7 R7 B7 qa qb Y7 HW7 HBY C5
        obtain ⟨qa, qb⟩ := sb_two X8.out
        have hAS : (A.size : Int) = (G.size : Int) := by rw [HAS.out]
        have hDS : (D.size : Int) = (G.size : Int) := by rw [HDS.out]
        have e1 : ((A.size : Int) != (G.size : Int)) = false := by rw [hAS]; simp
        have e2 : ((D.size : Int) != (G.size : Int)) = false := by rw [hDS]; simp
        have e3 : ((s.size : Int) != (s.size : Int)) = false := by simp
        clear hAS hDS
        go_wp2_with fail
        refine (HVS.out _ R8.out).mono ?_; rintro e w9 ⟨rfl, hb9⟩
        have B9 := Lib.hid (B8.out.trans (hb9.mono B8.out.size))
        clear hb9 X8 R8 B8 qa qb e1 e2 e3 HVS
        go_wp2_with fail
        go_loopw [22] (fun i wr => ∃ k : Nat, s.size ≤ k ∧ i = .int .i64 k ∧ Below w.heap.size w wr) (fun i _ => G.size - (intOf i).toNat)
        case atStart => exact ⟨s.size, Nat.le_refl _, rfl, B9.out⟩
        case round =>
          obtain ⟨k, hk, rfl, hb⟩ := hrel
          have B10 := Lib.hid hb
          clear hb B9
          by_cases hlt : k < G.size
          · have hkd : k < D.size := by have := HDS.out; omega
            have he := HDE.out k hkd hlt hk
            have i0 : (0 : Int) ≤ (k : Int) := by omega
            have i1 : (k : Int) < (G.size : Int) := by omega
            have i2 : (k : Int) < (D.size : Int) := by omega
            have wk : IntKind.i64.wrap ((k : Int) + 1) = (k : Int) + 1 := IntWalk.i64_in _ (by omega)
            have e1 : ((G[k].toNat : Int) != (G[k].toNat : Int)) = false := by simp
            go_wp2_with fail
            go_quiet (fail)
            go_wp2_with fail
            go_roundw
            case rel => exact ⟨k + 1, by omega, by go_num, below_drewN B10.out _⟩
            case measure => simp [intOf]; omega
          · have hlt' : ¬ (k : Int) < (G.size : Int) := by omega
            go_wp2_with fail
            go_ret
            exact ⟨rfl, B10.out⟩
end Go.Proofs.Ytnpigefbdadjfaa
