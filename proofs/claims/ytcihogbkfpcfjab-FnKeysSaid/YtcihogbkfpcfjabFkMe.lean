/- Several texts in one: The walk of the law FnKeys. | A run of one goroutine is a run in which every other goroutine is only leaving. | For all two rows of bytes, the law FnKeys returns true and leaves its arguments as they were; no condition. -/
import Derived.Test.YtcihogbkfpcfjabKeQ
import Derived.Test.YtcihogbkfpcfjabFkMd
import Derived.Laws.Concat
import Derived.Conc.Holds
import Derived.Leaving
import Derived.Test.YtcihogbkfpcfjabRows
import Derived.ProofKit
import Derived.OpenShut
import Derived.ShutString
import Derived.ChangeOld
import Derived.Below
import Derived.Carry
import Derived.Test.YtcihogbkfpcfjabFkMa
namespace Go.Proofs.Ytcihogbkfpcfjab
open Go Go.RowKit
set_option linter.unusedVariables false

theorem rdv_keepK {w w' : World} {v : Value} {l : List Value} (h : RdV (· < w.heap.size) w v l) (hb : Below w.heap.size w w') : RdV (· < w'.heap.size) w' v l := by
  obtain ⟨A, n, c, e, hn, h1, h2, h3⟩ := h.keep hb
  refine ⟨A, n, c, e, hn, h1, h2, fun h0 => ?_⟩
  obtain ⟨b, o, ea, hK, hlt, hc⟩ := h3 h0
  exact ⟨b, o, ea, hlt, hlt, hc⟩
theorem sb_two {W : World} {k : Nat} {u : Value} {s : ByteArray} (h : Bk W k [u, .string s]) : W.cell? ⟨k, 0, none⟩ = some u ∧ W.cell? ⟨k, 1, none⟩ = some (.string s) := ⟨h.c 0 _ rfl, h.c 1 _ rfl⟩
theorem ba_eta (s : ByteArray) : (⟨s.data.toList.toArray⟩ : ByteArray) = s := ByteArray.ext (by simp)
theorem zs_const : (⟨(zsT 20).toArray⟩ : ByteArray) = ⟨#[48, 48, 48, 48, 48, 48, 48, 48, 48, 48, 48, 48, 48, 48, 48, 48, 48, 48, 48, 48]⟩ := rfl

theorem plain_ok {M : List UInt8} {G : ByteArray} (hG : G = ⟨M.toArray⟩ ++ ⟨#[49, 48, 49, 48, 49, 48, 49]⟩) (hM : M.length ≤ 20) (hin : inR 48 49 M = true) : isB G.data.toList = true ∧ 7 ≤ G.data.toList.length ∧ G.size ≤ maxLen := by
  have e : G.data.toList = M ++ [49, 48, 49, 48, 49, 48, 49] := by rw [hG, ByteArray.mk_append_mk]
  have l : G.data.toList.length = G.size := rfl
  have h7 : G.data.toList.length = M.length + 7 := by rw [e]; simp
  refine ⟨?_, by omega, by unfold maxLen; omega⟩
  unfold isB
  rw [decide_eq_true (by omega : G.data.toList.length ≤ 400), e]
  unfold inR at *
  rw [List.all_append, hin]; decide
theorem key_row {L : List Int} {s G : ByteArray} (h : scOk L s.data.toList = true) (hg : isB G.data.toList = true) (hw : wid L ≤ (G.data.toList.length : Int)) : ∃ A : ByteArray, adV L s.data.toList G.data.toList = A ∧ scbOk L s.data.toList G.data.toList = true ∧ fkV L A.data.toList G.data.toList = s ∧ fkOk L A.data.toList G.data.toList = true ∧ A.size ≤ maxLen := by
  have e1 : scbOk L s.data.toList G.data.toList = true := by unfold scbOk; rw [h, hg]; rfl
  obtain ⟨f1, f2⟩ := found_ok h hg hw
  have e0 := adV_yes e1
  have f3 := (fkIn_parts (found_key h hg hw).1).2.1
  generalize adL L s.data.toList G.data.toList = T at *
  refine ⟨⟨T.toArray⟩, e0, e1, ?_, f1, ?_⟩
  · show fkV L T G.data.toList = s
    rw [f2, ba_eta]
  · have := (isB_r f3).1
    show T.toArray.size ≤ maxLen
    rw [List.size_toArray]
    unfold maxLen; omega
theorem worst_row {L : List Int} {s : ByteArray} (h : scOk L s.data.toList = true) : ∃ G : ByteArray, wbOk L s.data.toList 20 = true ∧ wbV L s.data.toList 20 = G ∧ scbOk L s.data.toList G.data.toList = true ∧ scbV false L s.data.toList G.data.toList = ⟨#[48, 48, 48, 48, 48, 48, 48, 48, 48, 48, 48, 48, 48, 48, 48, 48, 48, 48, 48, 48]⟩ ∧ G.size ≤ maxLen := by
  obtain ⟨z1, z2, z3⟩ := worst_zero h
  have e0 := wbV_yes z1
  rw [show (20 : Int).toNat = 20 from rfl] at e0
  generalize scbL true L s.data.toList (zsT 20) = T at *
  refine ⟨⟨T.toArray⟩, z1, e0, z2, ?_, ?_⟩
  · show scbV false L s.data.toList T = _
    rw [scbV_yes z2, z3, zs_const]
  · have := (isB_r (Bool.and_eq_true_iff.1 z2).2).1
    show T.toArray.size ≤ maxLen
    rw [List.size_toArray]
    unfold maxLen; omega

set_option maxHeartbeats 8000000 in
set_option maxRecDepth 100000 in
theorem law_FnKeys (v0 : Value) (l0 : List Value) (k0 : ∀ x ∈ l0, ∃ y : Int, x = .int .u8 y ∧ 0 ≤ y ∧ y ≤ 255) (v1 : Value) (l1 : List Value) (k1 : ∀ x ∈ l1, ∃ y : Int, x = .int .u8 y ∧ 0 ≤ y ∧ y ≤ 255) (w : World) (r0 : RdV (· < w.heap.size) w v0 l0) (r1 : RdV (· < w.heap.size) w v1 l1) :
    Calls Try.prog 6 #[v0, v1] w fun e w' => e = .returned (.bool true) ∧ Below w.heap.size w w' := by
  have HR0 := Lib.hid r0
  have HR1 := Lib.hid r1
  have HK0 := Lib.hid k0
  have HK1 := Lib.hid k1
  obtain ⟨A0, n0, c0, rfl, hn0, -⟩ := r0
  obtain ⟨A1, n1, c1, rfl, hn1, -⟩ := r1
  clear k0 k1 hn0 hn1
  have HL := Lib.hid (fun W => r8Long_any W A0 A1 n0 c0 n1 c1)
  by_cases hz : 48 < n0 ∨ 48 < n1
  · have hz' : (decide (48 < n0) || decide (48 < n1)) = true := by rcases hz with h | h <;> simp [h]
    rw [hz'] at HL
    clear hz hz'
    go_enter Try.func6, Try.ntmps6
    go_wp2_with fail
    refine (HL.out _).mono ?_; rintro e w1 ⟨rfl, q, rfl⟩
    go_wp2_with fail
    go_ret
    exact ⟨rfl, below_drewN (Below.refl _ _) q⟩
  · have hz' : (decide (48 < n0) || decide (48 < n1)) = false := by simp; omega
    rw [hz'] at HL
    clear hz hz'
    go_enter Try.func6, Try.ntmps6
    go_wp2_with fail
    refine (HL.out _).mono ?_; rintro e w1 ⟨rfl, q, rfl⟩
    have B1 : Hid (Below w.heap.size w (w.drewN q)) := below_drewN (Below.refl _ _) q
    go_wp2_with fail
    refine (r8Scrambler_any _ _ _ (rdv_keepK HR0.out B1.out) HK0.out).mono ?_; rintro e w2 ⟨u, s, L, rfl, ⟨hsc, hw7⟩, ho2, hb2⟩
    obtain ⟨Au, cu, rfl⟩ := own_shape ho2
    obtain ⟨w3, hw3⟩ : ∃ w3, w3 = w2.alloc (.cells #[.slice Au L.length cu, .string s] 43) := ⟨_, rfl⟩
    have k3 : Below w2.heap.size w2 w3 := by rw [hw3]; exact (Below.refl _ _).alloc (Nat.le_refl _) _
    have X3 : Hid (Bk w3 w2.heap.size [.slice Au L.length cu, .string s]) := by show Bk _ _ _; rw [hw3]; exact Bk.new w2 [.slice Au L.length cu, .string s] _ _ rfl
    have B3 := Lib.hid ((B1.out.trans (hb2.mono B1.out.size)).trans (k3.mono (Nat.le_trans B1.out.size hb2.size)))
    have R3 := Lib.hid (ho2.rd.keep k3)
    have HW3 := Lib.hid hw3
    obtain ⟨bx, hbx⟩ : ∃ bx, bx = w2.heap.size := ⟨_, rfl⟩
    rw [← hbx] at X3
    have HBX := Lib.hid hbx
    clear hbx
    have HSC := Lib.hid hsc
    obtain ⟨htp, hin, hqb, hql⟩ := sc_facts hsc
    have hkp := kpN_ok htp hqb hql
    have hk127 := kpN_le htp hqb hql hw7
    have hbdL : ∀ n ∈ L, -9223372036854775808 ≤ n ∧ n ≤ 9223372036854775807 := by
      intro n hn
      obtain ⟨i, hi, rfl⟩ := List.getElem_of_mem hn
      have := tpOk_le htp i hi
      have := (tpOk_wid htp).2
      omega
    have hssz : s.size ≤ maxLen := by
      have h1 := (scOk_parts hsc).2.2
      have h2 : s.data.toList.length = s.size := rfl
      have h3 := (tpOk_wid htp).2
      unfold maxLen; omega
    have hkV : kpV L s.data.toList = (kpN L (stQ s.data.toList) : Int) := by unfold kpV; rw [hsc]; rfl
    have hky : kyOk L s.data.toList 300 = true := by unfold kyOk; rw [hsc]; decide
    have HKP := Lib.hid (fun W h => keyPeriod_impl W (.slice Au L.length cu) L s hbdL hssz h)
    have HKB := Lib.hid (fun W h => keyBits_impl W (.slice Au L.length cu) L s 300 hbdL hssz h)
    rw [hkV, hsc] at HKP
    rw [hky, kyV_yes hky, show (⟨(kyL L s.data.toList 300).toArray⟩ : ByteArray) = kyB L s.data.toList from rfl] at HKB
    have HAT := Lib.hid (fun i hi => kyB_at hsc i hi)
    have HPE := Lib.hid (key_period hsc)
    have HLE := Lib.hid (fun d h1 hd => key_less hsc d (300 - kpN L (stQ s.data.toList)) h1 hd (by have := hkp.1; omega))
    have HNO := Lib.hid (fun d i h n hn => @smK_no L s.data.toList d i h n hn)
    have HSS : Hid (∀ d k, smK L s.data.toList d (k + 1) = (smK L s.data.toList d k && decide (kbit L (stQ s.data.toList) k = kbit L (stQ s.data.toList) (k + d)))) := by show ∀ _ _, _; intro d k; rfl
    have HS0 : Hid (∀ d, smK L s.data.toList d 0 = true) := by show ∀ _, _; intro d; rfl
    have hK300 := kyB_size hsc
    obtain ⟨P1, -, -, -⟩ := hkp
    have HAD := Lib.hid (fun W g hg h => addScramble_impl W (.slice Au L.length cu) L s g hbdL hssz hg h)
    have HFK := Lib.hid (fun W a b ha hb h => findKey_impl W (.slice Au L.length cu) L a b hbdL ha hb h)
    have HWO := Lib.hid (fun W h => worst_impl W (.slice Au L.length cu) L s 20 hbdL hssz h)
    have HSE := Lib.hid (fun W g hg h => selfScramble_impl W (.slice Au L.length cu) L s g hbdL hssz hg h)
    obtain ⟨WT, z1, e1, e2, e3, hWTs⟩ := worst_row hsc
    rw [z1, e1] at HWO
    have HSW := Lib.hid (fun W h => HSE.out W WT hWTs h)
    rw [e2, e3] at HSW
    have HLO := Lib.hid (fun W => longest_impl W ⟨#[48, 48, 48, 48, 48, 48, 48, 48, 48, 48, 48, 48, 48, 48, 48, 48, 48, 48, 48, 48]⟩ (by unfold maxLen; decide))
    rw [show lsV (⟨#[48, 48, 48, 48, 48, 48, 48, 48, 48, 48, 48, 48, 48, 48, 48, 48, 48, 48, 48, 48]⟩ : ByteArray).data.toList = 20 from lsV20, show isB (⟨#[48, 48, 48, 48, 48, 48, 48, 48, 48, 48, 48, 48, 48, 48, 48, 48, 48, 48, 48, 48]⟩ : ByteArray).data.toList = true from by decide] at HLO
    have HW7 := Lib.hid hw7
    have HBDL := Lib.hid hbdL
    clear hsc hw7 ho2 hb2 hw3 k3 B1 htp hin hqb hql hbdL hssz hkV hky HSE z1 e1 e2 e3 hWTs HL
    generalize kyB L s.data.toList = KB at *
    generalize kpN L (stQ s.data.toList) = P at *
    have hP1 : ¬ ((P : Int) < 1) := by omega
    have hP2 : ¬ ((127 : Int) < (P : Int)) := by omega
    have hKs : ((KB.size : Int) != 300) = false := bne_f (by omega)
    have hK3 := Lib.hid hK300
    clear hK300
    obtain ⟨qa, qb⟩ := sb_two X3.out
    go_wp2_with fail
    rw [← HW3.out, ← HBX.out]
    refine (HKP.out _ R3.out).mono ?_; rintro e w4 ⟨rfl, hb4⟩
    have X4 := Lib.hid (X3.out.keep hb4)
    have R4 := Lib.hid (R3.out.keep hb4)
    have B4 := Lib.hid (B3.out.trans (hb4.mono B3.out.size))
    clear hb4 X3 R3 B3 qa qb HW3 HBX
    obtain ⟨qa, qb⟩ := sb_two X4.out
    go_wp2_with fail
    refine (HKB.out _ R4.out).mono ?_; rintro e w5 ⟨rfl, hb5⟩
    have X5 := Lib.hid (X4.out.keep hb5)
    have R5 := Lib.hid (R4.out.keep hb5)
    have B5 := Lib.hid (B4.out.trans (hb5.mono B4.out.size))
    clear hb5 X4 R4 B4 qa qb HKP HKB
    obtain ⟨a, ⟨a0, a1⟩, ha⟩ := r8At_is w _ l1 0 P ⟨P1, by omega⟩ HR1.out HK1.out
    have HA : Hid (∀ W, Below w.heap.size w W → Calls Try.prog 34 #[.slice A1 n1 c1, .int .i64 0, .int .i64 (P : Int)] W fun e w' => e = .returned (.int .i64 a) ∧ W = w') := ha
    obtain ⟨D, hD⟩ : ∃ D : Nat, (D : Int) = 1 + a := ⟨(1 + a).toNat, by omega⟩
    have wd : IntKind.i64.wrap (1 + a) = (D : Int) := by rw [hD]; exact IntWalk.i64_in _ (by omega)
    have hD1 : 1 ≤ D := by omega
    have hDP : D ≤ P := by omega
    clear ha hD a0 a1
    go_wp2_with fail
    refine (HA.out _ B5.out).mono ?_; rintro e w' ⟨rfl, rfl⟩
    clear HA
    go_wp2_with fail
    clear wd
    go_loopw [11, 12] (fun sm i wr => ∃ k : Nat, k + P ≤ 300 ∧ i = .int .i64 k ∧ sm = .bool (smK L s.data.toList D k) ∧ Bk wr bx [.slice Au L.length cu, .string s] ∧ Rd wr (.slice Au L.length cu) L ∧ Below w.heap.size w wr) (fun _ i _ => 300 - (intOf i).toNat)
    case atStart => exact ⟨0, by omega, rfl, by rw [HS0.out], X5.out, R5.out, B5.out⟩
    case round =>
      obtain ⟨k, hk, rfl, rfl, hx, hr, hb⟩ := hrel
      have X6 := Lib.hid hx
      have R6 := Lib.hid hr
      have B6 := Lib.hid hb
      clear hx hr hb X5 R5 B5
      by_cases hlt : k + P < 300
      · have hks := hK3.out
        have i0 : (0 : Int) ≤ (k : Int) := by omega
        have i1 : (k : Int) < (KB.size : Int) := by omega
        have i2 : (0 : Int) ≤ (k : Int) + (P : Int) := by omega
        have i3 : (k : Int) + (P : Int) < (KB.size : Int) := by omega
        have i4 : (k : Int) + (P : Int) < 300 := by omega
        have i5 : ((k : Int) + (P : Int)).toNat = k + P := by omega
        have i6 : (0 : Int) ≤ (k : Int) + (D : Int) := by omega
        have i7 : (k : Int) + (D : Int) < (KB.size : Int) := by omega
        have i8 : ((k : Int) + (D : Int)).toNat = k + D := by omega
        have w1 : IntKind.i64.wrap ((k : Int) + (P : Int)) = (k : Int) + (P : Int) := IntWalk.i64_in _ (by omega)
        have w2' : IntKind.i64.wrap ((k : Int) + (D : Int)) = (k : Int) + (D : Int) := IntWalk.i64_in _ (by omega)
        have j1 : k < KB.size := by omega
        have j2 : k + P < KB.size := by omega
        have j3 : k + D < KB.size := by omega
        have x1 := HAT.out k j1
        have x2 := HAT.out (k + P) j2
        have x3 := HAT.out (k + D) j3
        rw [HPE.out k] at x2
        have hss := HSS.out D k
        obtain ⟨X, hX⟩ : ∃ X : Int, X = 48 + (kbit L (stQ s.data.toList) k : Int) := ⟨_, rfl⟩
        obtain ⟨Y, hY⟩ : ∃ Y : Int, Y = 48 + (kbit L (stQ s.data.toList) (k + D) : Int) := ⟨_, rfl⟩
        rw [← hX] at x1 x2
        rw [← hY] at x3
        have hxy : (kbit L (stQ s.data.toList) k = kbit L (stQ s.data.toList) (k + D)) ↔ X = Y := by omega
        have hss : smK L s.data.toList D (k + 1) = (smK L s.data.toList D k && decide (X = Y)) := by rw [hss, decide_eq_decide.2 hxy]
        have HSN := Lib.hid hss
        clear hss hX hY hxy hks HAT HPE HLE HNO HSS HS0
        generalize smK L s.data.toList D k = S at *
        cases S
        · go_wp2_with fail
          go_quiet (fail)
          go_wp2_with fail
          go_quiet (fail)
          go_wp2_with fail
          go_roundw
          case rel => exact ⟨k + 1, by omega, by go_num, by rw [HSN.out]; rfl, X6.out.drewN _, R6.out.drewN _, below_drewN B6.out _⟩
          case measure => simp [intOf]; omega
        · by_cases hc : X = Y
          · have e1 : (X == Y) = true := beq_t hc
            rw [decide_eq_true hc] at HSN
            clear hc
            go_wp2_with fail
            go_quiet (fail)
            go_wp2_with fail
            go_quiet (fail)
            go_wp2_with fail
            go_roundw
            case rel => exact ⟨k + 1, by omega, by go_num, by rw [HSN.out]; rfl, X6.out.drewN _, R6.out.drewN _, below_drewN B6.out _⟩
            case measure => simp [intOf]; omega
          · have e1 : (X == Y) = false := beq_f hc
            rw [decide_eq_false hc] at HSN
            clear hc
            go_wp2_with fail
            go_quiet (fail)
            go_wp2_with fail
            go_quiet (fail)
            go_wp2_with fail
            go_roundw
            case rel => exact ⟨k + 1, by omega, by go_num, by rw [HSN.out]; rfl, X6.out.drewN _, R6.out.drewN _, below_drewN B6.out _⟩
            case measure => simp [intOf]; omega
      · have hkk : k = 300 - P := by omega
        have i4 : ¬ (k : Int) + (P : Int) < 300 := by omega
        have w1 : IntKind.i64.wrap ((k : Int) + (P : Int)) = (k : Int) + (P : Int) := IntWalk.i64_in _ (by omega)
        have hsm : D = P ∨ (D ≠ P ∧ smK L s.data.toList D k = false) := by
          by_cases hDP2 : D = P
          · exact .inl hDP2
          · obtain ⟨i, hi, hne⟩ := HLE.out D hD1 (by omega)
            exact .inr ⟨hDP2, HNO.out D i hne k (by omega)⟩
        have HSM := Lib.hid hsm
        clear hsm hkk HAT HPE HLE HNO HSS HS0 hK3
        go_wp2_with fail
        refine (r8Bits_any _ _ _ 20 (by decide) (rdv_keepK HR1.out B6.out) HK1.out).mono ?_; rintro e w7 ⟨M, rfl, ⟨hM20, hMin⟩, hb7⟩
        have X7 := Lib.hid (X6.out.keep hb7)
        have R7 := Lib.hid (R6.out.keep hb7)
        have B7 := Lib.hid (B6.out.trans (hb7.mono B6.out.size))
        clear hb7 X6 R6 B6
        obtain ⟨G, hG⟩ : ∃ G : ByteArray, G = ⟨M.toArray⟩ ++ ⟨#[49, 48, 49, 48, 49, 48, 49]⟩ := ⟨_, rfl⟩
        have r1 : ∀ W : World, (Op.stringOp .add ⟨M.toArray⟩ ⟨#[49, 48, 49, 48, 49, 48, 49]⟩).run Try.prog W = .ok (.string G) W := fun W => by rw [hG]; exact run_string_add_sum W _ _ (by show M.toArray.size + 7 ≤ _; rw [List.size_toArray]; omega)
        obtain ⟨g1, g2, g3⟩ := plain_ok hG hM20 hMin
        obtain ⟨AB, u1, u2, u3, u4, u5⟩ := key_row HSC.out g1 (by have := HW7.out; omega)
        have HAD2 := Lib.hid (fun W h => HAD.out W G g3 h)
        have HFK2 := Lib.hid (fun W h => HFK.out W AB G u5 g3 h)
        rw [u1, u2] at HAD2
        rw [u3, u4] at HFK2
        have e6 : ((20 : Int) == 20) = true := by decide
        clear hG g1 g2 g3 u1 u2 u3 u4 u5 HAD HFK hM20 hMin HSC HW7 HBDL i4 w1 hlt
        have hxx : (smK L s.data.toList D k = false ∧ ((D : Int) == (P : Int)) = false) ∨ ((D : Int) == (P : Int)) = true := by
          rcases HSM.out with h | ⟨h1, h2⟩
          · exact .inr (beq_t (by omega))
          · exact .inl ⟨h2, beq_f (by omega)⟩
        clear HSM hDP hD1 P1 hP1 hP2 hKs hk127 hk
        generalize smK L s.data.toList D k = S at *
        rcases hxx with ⟨rfl, e7⟩ | e7
        all_goals (obtain ⟨qa, qb⟩ := sb_two X7.out)
        all_goals go_wp2_with fail
        all_goals (refine (HAD2.out _ R7.out).mono ?_; rintro e w8 ⟨rfl, hb8⟩; have X8 := Lib.hid (X7.out.keep hb8); have R8 := Lib.hid (R7.out.keep hb8); have B8 := Lib.hid (B7.out.trans (hb8.mono B7.out.size)); clear hb8 X7 R7 B7 qa qb)
        all_goals (obtain ⟨qa, qb⟩ := sb_two X8.out)
        all_goals go_wp2_with fail
        all_goals (refine (HFK2.out _ R8.out).mono ?_; rintro e w9 ⟨rfl, hb9⟩; have X9 := Lib.hid (X8.out.keep hb9); have R9 := Lib.hid (R8.out.keep hb9); have B9 := Lib.hid (B8.out.trans (hb9.mono B8.out.size)); clear hb9 X8 R8 B8 qa qb)
        all_goals (obtain ⟨qa, qb⟩ := sb_two X9.out)
        all_goals go_wp2_with fail
        all_goals (refine (HWO.out _ R9.out).mono ?_; rintro e w10 ⟨rfl, hb10⟩; have X10 := Lib.hid (X9.out.keep hb10); have R10 := Lib.hid (R9.out.keep hb10); have B10 := Lib.hid (B9.out.trans (hb10.mono B9.out.size)); clear hb10 X9 R9 B9 qa qb)
        all_goals (obtain ⟨qa, qb⟩ := sb_two X10.out)
        all_goals go_wp2_with fail
        all_goals (refine (HSW.out _ R10.out).mono ?_; rintro e w11 ⟨rfl, hb11⟩; have X11 := Lib.hid (X10.out.keep hb11); have R11 := Lib.hid (R10.out.keep hb11); have B11 := Lib.hid (B10.out.trans (hb11.mono B10.out.size)); clear hb11 X10 R10 B10 qa qb)
        all_goals (obtain ⟨qa, qb⟩ := sb_two X11.out)
        all_goals go_wp2_with fail
        all_goals (refine (HLO.out _).mono ?_; rintro e w12 ⟨rfl, hb12⟩; have X12 := Lib.hid (X11.out.keep hb12); have B12 := Lib.hid (B11.out.trans (hb12.mono B11.out.size)); clear hb12 X11 R11 B11 qa qb)
        all_goals (obtain ⟨qa, qb⟩ := sb_two X12.out)
        all_goals go_wp2_with fail
        all_goals go_ret
        all_goals exact ⟨rfl, B12.out⟩
end Go.Proofs.Ytcihogbkfpcfjab

namespace Go.Proofs.Ytcihogbkfpcfjab
open Go

theorem leaving_of_handed {a : Assume} {C : Checked} {os : Os} {f : FuncId} {r : Reach} {Pre : World → Array Value → Prop} {Post : World → Array Value → Value → World → Prop}
    (h : ReturnsInHanded a C os f r Pre Post) : ReturnsInLeavingWide a C os f r Pre Post := fun enter => by
  obtain ⟨h1, h2, h3, h4, h5⟩ := h enter
  refine ⟨h1, h2, h3, h4, fun w tape i hf => ?_⟩
  obtain ⟨n, v, w', a1, a2, a3, a4, ⟨j, last, b1, b2, b3⟩, a6⟩ := h5 w tape i hf
  exact ⟨n, v, w', a1, a2, a3, a4, ⟨j, last, b1, b2, b3.2.1, onlyLeaving_of_quiet b3.1, b3.2.2⟩, a6⟩
end Go.Proofs.Ytcihogbkfpcfjab

namespace Go.Proofs.Ytcihogbkfpcfjab.fnKeys
open Go.ChangeShapes Go.WideShapes Go.ChangeAt Go.RowKit
open Go.ChangeMaps (open_string shut_string)
set_option linter.unusedVariables false

theorem laid : laidOutB Try.prog = true := by kernel_rfl
theorem own : ownKnob Try.prog.godebug = none := by kernel_rfl
set_option maxRecDepth 100000 in
theorem lifted (os : Os) (started : os.Started) (H : Type) (enc : TypeId × Value → H) :
    ReturnsInHanded {} Try.checked os 6 .any (Rows.fnKeysSpec.pre6 enc Try.prog Try.f6 Rows.fnKeysRow.domain false) (Rows.fnKeysSpec.post enc Try.prog Try.f6 false true false false) := by
  refine returnsInHanded_of_change (C := Try.checked) own started (by kernel_rfl) Try.func6
    (ChangeSpec.witness6 (enc := enc) (C := Try.checked) false ⟨#[], #[.slice none 0 0, .slice none 0 0], []⟩ 8 (by kernel_rfl) (by kernel_rfl) (by kernel_rfl) (by kernel_rfl)) ?_
  intro W base args ds gs before hval0 hW hcnd _
  have hval : ∀ (j : Nat) t v, Try.f6.params[j]? = some t → args[j]? = some v → Value.okWide Try.prog W .any base t v := hval0
  have hW' := hW
  obtain ⟨p, q, hA0, hV, rfl, hfz, hnd⟩ := hW
  have hA : DataW.TrodAll enc Try.prog W 0 (fun _ => true) true Try.f6.params.toList args.toList ds p := hA0
  rw [Try.params6] at hA hval
  obtain ⟨v0, vs0, d0, ds0, p0, q0, hargs, rfl, rfl, h0, r0⟩ := trodAll_cons hA
  obtain ⟨v1, vs1, d1, ds1, p1, q1, rfl, rfl, rfl, h1, r1⟩ := trodAll_cons r0
  obtain ⟨rfl, rfl, rfl⟩ := trodAll_nil r1
  obtain rfl : args = #[v0, v1] := by cases args; simp_all
  obtain ⟨rfl, rfl⟩ := trodVars_none hV
  have kk0 := h0
  obtain ⟨ao0, len0, cap0, rfl⟩ := okWide_slice Try.underlying32 (hval 0 32 v0 rfl rfl)
  obtain ⟨fuel0, hf0⟩ := h0
  obtain ⟨l0, R0, F0⟩ := bytes_open (v := .slice ao0 len0 cap0) (by simpa [Value.cells] using hf0)
  have kk1 := h1
  obtain ⟨ao1, len1, cap1, rfl⟩ := okWide_slice Try.underlying32 (hval 1 32 v1 rfl rfl)
  obtain ⟨fuel1, hf1⟩ := h1
  obtain ⟨l1, R1, F1⟩ := bytes_open (v := .slice ao1 len1 cap1) (by simpa [Value.cells] using hf1)
  clear hA0 hval0
  refine (law_FnKeys _ l0 F0 _ l1 F1 W R0 R1).mono fun e W' ⟨he, bel⟩ => ?_
  subst he
  exact ⟨_, rfl, _, _, _, [], _, [], hW', trodAll_mk1 (shut_bool Try.underlying4 _), (trodAll_cons_mk (Go.RowKit.Below.trod laid (by kernel_rfl) (of_decide_eq_true (by kernel_rfl)) kk0 bel (fun x hx => DataW.trod_lt _ _ _ _ kk0.choose_spec x hx)) (trodAll_cons_mk (Go.RowKit.Below.trod laid (by kernel_rfl) (of_decide_eq_true (by kernel_rfl)) kk1 bel (fun x hx => DataW.trod_lt _ _ _ _ kk1.choose_spec x hx)) trodAll_mk0)), rfl, bel.frame _, fun h => by cases h⟩

theorem over : Rows.fnKeysRow.holds Try.pinned (OpenSpec.ofChange Rows.fnKeysSpec) :=
  OpenClaim.holds_of_wide_leaving 6 Try.f6 rfl rfl rfl rfl rfl rfl rfl ⟨rfl, rfl, rfl, rfl, rfl⟩ rfl rfl rfl rfl rfl (by kernel_rfl) Try.func6 (by kernel_rfl)
    (of_decide_eq_true (by kernel_rfl)) (by unfold Func.isWrapper; first | (rw [if_pos (by decide +kernel)]; kernel_rfl) | (rw [if_neg (by decide +kernel)]; exact ⟨rfl, rfl⟩))
    (fun os started H enc _ => leaving_of_handed (lifted os started H enc))

/-- The statement. -/
theorem proved : Rows.FnKeysSaid := over
#print axioms proved
end Go.Proofs.Ytcihogbkfpcfjab.fnKeys

