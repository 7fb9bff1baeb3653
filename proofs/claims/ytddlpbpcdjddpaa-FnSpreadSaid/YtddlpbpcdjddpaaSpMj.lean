/- Several texts in one: The walk of the law FnSpread. | A run of one goroutine is a run in which every other goroutine is only leaving. | For all two rows of bytes, the law FnSpread returns true and leaves its arguments as they were; no condition. -/
import Derived.Test.YtddlpbpcdjddpaaSpMc
import Derived.Test.YtddlpbpcdjddpaaSpMi
import Derived.Test.YtddlpbpcdjddpaaSpMb
import Derived.Test.YtddlpbpcdjddpaaScb
import Derived.Laws.Concat
import Derived.Conc.Holds
import Derived.Leaving
import Derived.Test.YtddlpbpcdjddpaaRows
import Derived.ProofKit
import Derived.OpenShut
import Derived.ShutString
import Derived.ChangeOld
import Derived.Below
import Derived.Carry
import Derived.Test.YtddlpbpcdjddpaaSpMe
namespace Go.Proofs.Ytddlpbpcdjddpaa
open Go Go.RowKit
set_option linter.unusedVariables false

theorem rdv_keepK {w w' : World} {v : Value} {l : List Value} (h : RdV (· < w.heap.size) w v l) (hb : Below w.heap.size w w') : RdV (· < w'.heap.size) w' v l := by
  obtain ⟨A, n, c, e, hn, h1, h2, h3⟩ := h.keep hb
  refine ⟨A, n, c, e, hn, h1, h2, fun h0 => ?_⟩
  obtain ⟨b, o, ea, hK, hlt, hc⟩ := h3 h0
  exact ⟨b, o, ea, hlt, hlt, hc⟩
theorem sb_two {W : World} {k : Nat} {u : Value} {s : ByteArray} (h : Bk W k [u, .string s]) : W.cell? ⟨k, 0, none⟩ = some u ∧ W.cell? ⟨k, 1, none⟩ = some (.string s) := ⟨h.c 0 _ rfl, h.c 1 _ rfl⟩
theorem plain_ok {M : List UInt8} {G : ByteArray} (hG : G = ⟨M.toArray⟩ ++ ⟨#[48, 48, 48, 48, 48, 48, 48, 48]⟩) (hM : M.length ≤ 20) (hin : inR 48 49 M = true) : isB G.data.toList = true ∧ G.size ≤ 28 := by
  have e : G.data.toList = M ++ [48, 48, 48, 48, 48, 48, 48, 48] := by rw [hG, ByteArray.mk_append_mk]
  have l : G.data.toList.length = G.size := rfl
  have h7 : G.data.toList.length = M.length + 8 := by rw [e]; simp
  refine ⟨?_, by omega⟩
  unfold isB
  rw [decide_eq_true (by omega : G.data.toList.length ≤ 400), e]
  unfold inR at *
  rw [List.all_append, hin]; decide
theorem isB_of {M : List UInt8} (h : M.length ≤ 400) (h2 : inR 48 49 M = true) : isB M = true := by
  unfold isB; rw [decide_eq_true h, h2]; rfl
theorem xorB_tx {M : List Nat} {e : List UInt8} (hM : bitsN M) (he : inR 48 49 e = true) (hl : M.length = e.length) : xorB (tx M) e M.length = tx (mx M (gb e) M.length) := by
  rw [xorB_comm, hl]; exact xor_key he hM hl
/-- What the calls of the law answer: rows of bits. -/
theorem spread_row {L : List Int} {s G E : ByteArray} (h : scOk L s.data.toList = true) (hG : isB G.data.toList = true) (hE : isB E.data.toList = true) (hl : G.size = E.size) :
    ∃ A X R T : ByteArray, (scbV false L s.data.toList G.data.toList = A ∧ scbOk L s.data.toList G.data.toList = true ∧ isB A.data.toList = true ∧ A.size = E.size) ∧
      ((⟨(xorB A.data.toList E.data.toList A.size).toArray⟩ : ByteArray) = X ∧ X.size ≤ 400) ∧
      (scbV true L s.data.toList X.data.toList = R ∧ scbOk L s.data.toList X.data.toList = true ∧ isB R.data.toList = true ∧ R.size = G.size) ∧
      (⟨(xorB R.data.toList G.data.toList R.size).toArray⟩ : ByteArray) = T ∧ erV L s.data.toList E.data.toList = T ∧ scbOk L s.data.toList E.data.toList = true := by
  obtain ⟨ht, -, hw⟩ := scOk_parts h
  obtain ⟨g4, gi⟩ := isB_two hG
  obtain ⟨e4, ei⟩ := isB_two hE
  have gl : G.data.toList.length = G.size := rfl
  have el : E.data.toList.length = E.size := rfl
  obtain ⟨-, hsi⟩ := isB_two (scOk_parts h).2.1
  have hq := stQ_bits hsi
  have hql : ((stQ s.data.toList).length : Int) = wid L := by rw [stQ_len]; exact hw
  have hB := gb_bits gi
  have hEb := gb_bits ei
  have k1 : scbOk L s.data.toList G.data.toList = true := by unfold scbOk; rw [h, hG]; rfl
  have k2 : scbOk L s.data.toList E.data.toList = true := by unfold scbOk; rw [h, hE]; rfl
  obtain ⟨-, oa, -, la⟩ := scF_ok false L _ hq _ hB
  have hlt : ∀ t ∈ L, 1 ≤ t ∧ t ≤ ((stQ s.data.toList).length : Int) := by
    intro t ht'
    obtain ⟨j, hj, rfl⟩ := List.getElem_of_mem ht'
    have h3 := tpR_at (tpOk_parts ht).2.2 j hj
    have h4 := inc_far (tpOk_parts ht).2.1 (L.length - 1 - j) j (by omega)
    rw [wid_at (tpOk_parts ht).1] at hql
    simp only [show j + (L.length - 1 - j) = L.length - 1 from by omega] at h4
    omega
  have hlin := lin_back (B := gb G.data.toList) (E := gb E.data.toList) hlt (by rw [gb_len, gb_len]; omega) la
  have v1 := scbV_yes (d := false) k1
  unfold scbL at v1
  generalize hA : (scF false L (stQ s.data.toList) (gb G.data.toList)).2 = A at *
  have la' : A.length = E.size := by rw [la, gb_len]; omega
  have om : bitsN (mx A (gb E.data.toList) A.length) := mx_bits oa hEb _
  have lm : (mx A (gb E.data.toList) A.length).length = E.size := by rw [mx_len]; exact la'
  have x1 : xorB (tx A) E.data.toList A.length = tx (mx A (gb E.data.toList) A.length) := xorB_tx oa ei (by omega)
  generalize hX : mx A (gb E.data.toList) A.length = X at *
  have ix : isB (tx X) = true := isB_of (by rw [tx_len]; omega) (tx_inR om)
  have k3 : scbOk L s.data.toList (tx X) = true := by unfold scbOk; rw [h, ix]; rfl
  obtain ⟨-, orr, -, lr⟩ := scF_ok true L _ hq _ om
  have v3 := scbV_yes (d := true) k3
  unfold scbL at v3
  rw [gb_tx om] at v3
  generalize hR : (scF true L (stQ s.data.toList) X).2 = R at *
  have x2 : xorB (tx R) G.data.toList R.length = tx (mx R (gb G.data.toList) R.length) := xorB_tx orr gi (by omega)
  have bw := both_ways (g := E.data.toList) (w := (stQ s.data.toList).length) hlt ei
  refine ⟨⟨(tx A).toArray⟩, ⟨(tx X).toArray⟩, ⟨(tx R).toArray⟩, erV L s.data.toList E.data.toList, ⟨v1, k1, isB_of (by show (tx A).length ≤ 400; rw [tx_len]; omega) (tx_inR oa), ?_⟩, ⟨?_, ?_⟩, ⟨v3, k3, isB_of (by show (tx R).length ≤ 400; rw [tx_len]; omega) (tx_inR orr), ?_⟩, ?_, rfl, k2⟩
  · show (tx A).toArray.size = _
    rw [List.size_toArray, tx_len]; exact la'
  · show (⟨(xorB (tx A) E.data.toList (tx A).toArray.size).toArray⟩ : ByteArray) = _
    rw [List.size_toArray, tx_len, x1]
  · show (tx X).toArray.size ≤ _
    rw [List.size_toArray, tx_len]; omega
  · show (tx R).toArray.size = _
    rw [List.size_toArray, tx_len]; omega
  · show (⟨(xorB (tx R) G.data.toList (tx R).toArray.size).toArray⟩ : ByteArray) = _
    rw [List.size_toArray, tx_len, x2, erV_yes k2, ← bw]
    rw [show R.length = (gb G.data.toList).length from by rw [gb_len]; omega, hlin]
/-- One error's wrong bits. -/
theorem single_row {L : List Int} {s : List UInt8} (h : scOk L s = true) (hw : wid L ≤ 7) : ∃ S : ByteArray, erV L s e11 = S ∧ scbOk L s e11 = true ∧ S.size = 11 ∧ (∀ i (h : i < S.size), (S[i].toNat : Int) = 48 + (b2n (f11 L i) : Int)) ∧ cB (f11 L) 11 = L.length + 1 ∧ spV L s = (L.length : Int) + 1 := by
  have k1 : scbOk L s e11 = true := by unfold scbOk; rw [h]; decide
  have hv := erV_yes k1
  rw [show e11.length = 11 from rfl, fB11] at hv
  obtain ⟨ht, -, -⟩ := scOk_parts h
  refine ⟨_, hv, k1, ?_, ?_, ?_, by unfold spV; rw [h]; rfl⟩
  · show (pbL (f11 L) 11).toArray.size = 11
    rw [List.size_toArray, pbL_len]
  · intro i hi
    have hi' : i < 11 := by
      have : (⟨(pbL (f11 L) 11).toArray⟩ : ByteArray).size = 11 := by show (pbL (f11 L) 11).toArray.size = 11; rw [List.size_toArray, pbL_len]
      omega
    show (((pbL (f11 L) 11)[i]'(by rw [pbL_len]; exact hi')).toNat : Int) = _
    unfold pbL
    rw [List.getElem_map, List.getElem_range]
    unfold b2n
    cases f11 L i <;> rfl
  · have hc := count11 L (tpOk_parts ht).2.1 (fun j hj => ?_) L.length (Nat.le_refl _)
    · rw [List.take_length] at hc; exact hc
    · have h3 := tpR_at (tpOk_parts ht).2.2 j hj
      have h4 := inc_far (tpOk_parts ht).2.1 (L.length - 1 - j) j (by omega)
      rw [wid_at (tpOk_parts ht).1] at hw
      simp only [show j + (L.length - 1 - j) = L.length - 1 from by omega] at h4
      omega

set_option maxHeartbeats 8000000 in
set_option maxRecDepth 100000 in
theorem law_FnSpread (v0 : Value) (l0 : List Value) (k0 : ∀ x ∈ l0, ∃ y : Int, x = .int .u8 y ∧ 0 ≤ y ∧ y ≤ 255) (v1 : Value) (l1 : List Value) (k1 : ∀ x ∈ l1, ∃ y : Int, x = .int .u8 y ∧ 0 ≤ y ∧ y ≤ 255) (w : World) (r0 : RdV (· < w.heap.size) w v0 l0) (r1 : RdV (· < w.heap.size) w v1 l1) :
    Calls Try.prog 8 #[v0, v1] w fun e w' => e = .returned (.bool true) ∧ Below w.heap.size w w' := by
  have HR0 := Lib.hid r0
  have HR1 := Lib.hid r1
  have HK0 := Lib.hid k0
  have HK1 := Lib.hid k1
  obtain ⟨A0, n0, c0, rfl, hn0, -⟩ := r0
  obtain ⟨A1, n1, c1, rfl, hn1, -⟩ := r1
  clear k0 k1 hn0 hn1
  have HL := Lib.hid (fun W => r8Long_any W A0 A1 n0 c0 n1 c1)
  by_cases hz : 48 < n0 ∨ 48 < n1
  · have hz' : (decide (48 < n0) || decide (48 < n1)) = true := by rcases hz with h | h <;> simp [h]
    rw [hz'] at HL
    clear hz hz'
    go_enter Try.func8, Try.ntmps8
    go_wp2_with fail
    refine (HL.out _).mono ?_; rintro e w1 ⟨rfl, q, rfl⟩
    go_wp2_with fail
    go_ret
    exact ⟨rfl, below_drewN (Below.refl _ _) q⟩
  · have hz' : (decide (48 < n0) || decide (48 < n1)) = false := by simp; omega
    rw [hz'] at HL
    clear hz hz'
    go_enter Try.func8, Try.ntmps8
    go_wp2_with fail
    refine (HL.out _).mono ?_; rintro e w1 ⟨rfl, q, rfl⟩
    have B1 : Hid (Below w.heap.size w (w.drewN q)) := below_drewN (Below.refl _ _) q
    go_wp2_with fail
    refine (r8Scrambler_any _ _ _ (rdv_keepK HR0.out B1.out) HK0.out).mono ?_; rintro e w2 ⟨u, s, L, rfl, ⟨hsc, hw7⟩, ho2, hb2⟩
    obtain ⟨Au, cu, rfl⟩ := own_shape ho2
    obtain ⟨w3, hw3⟩ : ∃ w3, w3 = w2.alloc (.cells #[.slice Au L.length cu, .string s] 28) := ⟨_, rfl⟩
    have k3 : Below w2.heap.size w2 w3 := by rw [hw3]; exact (Below.refl _ _).alloc (Nat.le_refl _) _
    have X3 : Hid (Bk w3 w2.heap.size [.slice Au L.length cu, .string s]) := by show Bk _ _ _; rw [hw3]; exact Bk.new w2 [.slice Au L.length cu, .string s] _ _ rfl
    have B3 := Lib.hid ((B1.out.trans (hb2.mono B1.out.size)).trans (k3.mono (Nat.le_trans B1.out.size hb2.size)))
    have R3 := Lib.hid (ho2.rd.keep k3)
    have HW3 := Lib.hid hw3
    obtain ⟨bx, hbx⟩ : ∃ bx, bx = w2.heap.size := ⟨_, rfl⟩
    rw [← hbx] at X3
    have HBX := Lib.hid hbx
    clear hbx
    have HSC := Lib.hid hsc
    obtain ⟨htp, -, hws⟩ := scOk_parts hsc
    have hbdL : ∀ n ∈ L, -9223372036854775808 ≤ n ∧ n ≤ 9223372036854775807 := by
      intro n hn
      obtain ⟨i, hi, rfl⟩ := List.getElem_of_mem hn
      have := tpR_at (tpOk_parts htp).2.2 i hi
      omega
    have hssz : s.size ≤ maxLen := by
      have h2 : s.data.toList.length = s.size := rfl
      have h3 := (tpOk_wid htp).2
      unfold maxLen; omega
    have HSE := Lib.hid (fun W g hg h => selfScramble_impl W (.slice Au L.length cu) L s g hbdL hssz hg h)
    have HSD := Lib.hid (fun W g hg h => selfDescramble_impl W (.slice Au L.length cu) L s g hbdL hssz hg h)
    have HER := Lib.hid (fun W g hg h => errors_impl W (.slice Au L.length cu) L s g hbdL hssz hg h)
    have HSP := Lib.hid (fun W h => spread_impl W (.slice Au L.length cu) L s hbdL hssz h)
    obtain ⟨SG, y1, y2, y3, y4, y5, y6⟩ := single_row hsc hw7
    have HS1 := Lib.hid (fun W h => HER.out W ⟨#[48, 48, 49, 48, 48, 48, 48, 48, 48, 48, 48]⟩ (by unfold maxLen; decide) h)
    rw [show (⟨#[48, 48, 49, 48, 48, 48, 48, 48, 48, 48, 48]⟩ : ByteArray).data.toList = e11 from rfl, y1, y2] at HS1
    rw [y6, hsc] at HSP
    have HY3 := Lib.hid y3
    have HL16 := Lib.hid (tp_len (tpOk_parts htp).2.1 (tpOk_parts htp).2.2)
    have HY4 := Lib.hid y4
    have HY5 := Lib.hid y5
    clear hsc hw7 ho2 hb2 hw3 k3 B1 htp hws hbdL hssz HL y1 y2 y3 y4 y5 y6
    generalize f11 L = F at *
    obtain ⟨n1, hn1⟩ : ∃ n1, n1 = L.length := ⟨_, rfl⟩
    go_wp2_with fail
    rw [← HW3.out, ← HBX.out]
    refine (r8Bits_any _ _ _ 20 (by decide) (rdv_keepK HR1.out B3.out) HK1.out).mono ?_; rintro e w4 ⟨M, rfl, ⟨hM20, hMin⟩, hb4⟩
    have X4 := Lib.hid (X3.out.keep hb4)
    have R4 := Lib.hid (R3.out.keep hb4)
    have B4 := Lib.hid (B3.out.trans (hb4.mono B3.out.size))
    clear hb4 X3 R3 B3 HW3 HBX HR1 HK1
    obtain ⟨G, hG⟩ : ∃ G : ByteArray, G = ⟨M.toArray⟩ ++ ⟨#[48, 48, 48, 48, 48, 48, 48, 48]⟩ := ⟨_, rfl⟩
    have r1 : ∀ W : World, (Op.stringOp .add ⟨M.toArray⟩ ⟨#[48, 48, 48, 48, 48, 48, 48, 48]⟩).run Try.prog W = .ok (.string G) W := fun W => by rw [hG]; exact run_string_add_sum W _ _ (by show M.toArray.size + 8 ≤ _; rw [List.size_toArray]; omega)
    obtain ⟨g1, g2⟩ := plain_ok hG hM20 hMin
    have HG1 := Lib.hid g1
    have HG2 := Lib.hid g2
    clear hG g1 g2 hM20 hMin
    go_wp2_with fail
    go_loopw [7, 8] (fun t i wr => ∃ (k : Nat) (E : List UInt8), k ≤ G.size ∧ i = .int .i64 k ∧ t = .string ⟨E.toArray⟩ ∧ E.length = k ∧ inR 48 49 E = true ∧ Bk wr bx [.slice Au L.length cu, .string s] ∧ Rd wr (.slice Au L.length cu) L ∧ Below w.heap.size w wr) (fun _ i _ => G.size - (intOf i).toNat)
    case atStart => exact ⟨0, [], Nat.zero_le _, rfl, rfl, rfl, rfl, X4.out, R4.out, B4.out⟩
    case round =>
      obtain ⟨k, E, hk, rfl, rfl, hel, hei, hx, hr, hb⟩ := hrel
      have X6 := Lib.hid hx
      have R6 := Lib.hid hr
      have B6 := Lib.hid hb
      have HEI := Lib.hid hei
      have HEL := Lib.hid hel
      clear hx hr hb hei hel X4 R4 B4
      by_cases hlt : k < G.size
      · obtain ⟨a, ⟨a0, a1⟩, ha⟩ := r8At_is w _ l0 k 3 (by decide) HR0.out HK0.out
        have HA : Hid (∀ W, Below w.heap.size w W → Calls Try.prog 28 #[.slice A0 n0 c0, .int .i64 (k : Int), .int .i64 3] W fun e w' => e = .returned (.int .i64 a) ∧ W = w') := ha
        obtain ⟨c, hc⟩ := byte_num (48 + a / 2) (by omega) (by omega)
        have hc1 : 48 ≤ (c.toNat : Int) ∧ (c.toNat : Int) ≤ 49 := by omega
        have hg28 := HG2.out
        have wk : IntKind.i64.wrap ((k : Int) + 1) = (k : Int) + 1 := IntWalk.i64_in _ (by omega)
        obtain ⟨d, hd⟩ : ∃ d, d = a / 2 := ⟨_, rfl⟩
        have hd2 : a / 2 = d := hd.symm
        rw [hd2] at hc
        obtain ⟨x, hx⟩ : ∃ x, x = 48 + d := ⟨_, rfl⟩
        have w1 : IntKind.i64.wrap (48 + d) = x := by rw [hx]; exact IntWalk.i64_in _ (by omega)
        have w2 : IntKind.u8.wrap x = x := IntWalk.u8_in _ (by omega)
        have w3 : IntKind.i64.wrap d = d := IntWalk.i64_in _ (by omega)
        have hcx : (c.toNat : Int) = x := by rw [hx]; exact hc
        have hcv : (convert 41 9 (.slice (some ⟨wr.heap.size, 0, none⟩) 1 1)).run Try.prog (wr.alloc (.cells #[.int .u8 x] 5)) = .ok (.string ⟨#[c]⟩) (wr.alloc (.cells #[.int .u8 x] 5)) := by
          refine run_convert_bytes_back _ _ _ 5 ⟨wr.heap.size, 0, none⟩ 1 [c] Try.underlying41 Try.underlying5 Try.underlying9 (fun j hj => ?_)
          obtain rfl : j = 0 := by simpa using hj
          rw [c1_one wr (.int .u8 x) 5 0 _ rfl]
          exact congrArg (fun y : Int => some (Value.int .u8 y)) hcx.symm
        have r2 : ∀ W : World, (Op.stringOp .add ⟨E.toArray⟩ ⟨#[c]⟩).run Try.prog W = .ok (.string ⟨(E ++ [c]).toArray⟩) W := fun W => by
          rw [run_string_add_sum W _ _ (by show E.toArray.size + 1 ≤ _; rw [List.size_toArray]; have := HEL.out; have := HG2.out; omega), ByteArray.mk_append_mk]
        have HIN : Hid (inR 48 49 (E ++ [c]) = true) := inR_one HEI.out hc1
        have HC : Hid ((wr.alloc (.cells #[.int .u8 x] 5)) = (wr.alloc (.cells #[.int .u8 x] 5))) := rfl
        have XN := Lib.hid (X6.out.alloc (.cells #[.int .u8 x] 5))
        have RN := Lib.hid (R6.out.keep ((Below.refl _ _).alloc (Nat.le_refl _) (.cells #[.int .u8 x] 5)))
        have BN := Lib.hid (B6.out.alloc B6.out.size (.cells #[.int .u8 x] 5))
        clear ha hc hd hx hcx hc1
        go_wp2_with fail
        refine (HA.out _ B6.out).mono ?_; rintro e w' ⟨rfl, rfl⟩
        go_wp2_with fail
        go_roundw
        case rel => exact ⟨k + 1, E ++ [c], by omega, by go_num, rfl, by rw [List.length_append, HEL.out]; rfl, HIN.out, XN.out, RN.out, BN.out⟩
        case measure => simp [intOf]; omega
      · obtain rfl : k = G.size := by omega
        have hes : (⟨E.toArray⟩ : ByteArray).size = G.size := by show E.toArray.size = _; rw [List.size_toArray]; exact HEL.out
        have heB : isB (⟨E.toArray⟩ : ByteArray).data.toList = true := by show isB E = true; exact isB_of (by have := HEL.out; have := HG2.out; omega) HEI.out
        obtain ⟨Eb, hEb⟩ : ∃ Eb : ByteArray, Eb = ⟨E.toArray⟩ := ⟨_, rfl⟩
        rw [← hEb] at hes heB ⊢
        clear hEb HEI HEL
        obtain ⟨A, X, R, Tt, ⟨p1, p2, p3, p4⟩, ⟨p5, p6⟩, ⟨p7, p8, p9, p10⟩, p11, p12, p13⟩ := spread_row HSC.out HG1.out heB hes.symm
        have hg28 := HG2.out
        have C1 := Lib.hid (fun W h => HSE.out W G (by unfold maxLen; omega) h)
        rw [p1, p2] at C1
        have C2 := Lib.hid (fun W => xor_yes_impl A Eb W p3 heB p4)
        rw [p5] at C2
        have C3 := Lib.hid (fun W h => HSD.out W X (by unfold maxLen; omega) h)
        rw [p7, p8] at C3
        have C4 := Lib.hid (fun W => xor_yes_impl R G W p9 HG1.out p10)
        rw [p11] at C4
        have C5 := Lib.hid (fun W h => HER.out W Eb (by unfold maxLen; omega) h)
        rw [p12, p13] at C5
        clear p1 p2 p3 p4 p5 p6 p7 p8 p9 p10 p11 p12 p13 hes heB HSE HSD HER HSC HG1 HG2 hg28 hlt
        obtain ⟨qa, qb⟩ := sb_two X6.out
        go_wp2_with fail
        refine (C1.out _ R6.out).mono ?_; rintro e w7 ⟨rfl, hb7⟩
        have X7 := Lib.hid (X6.out.keep hb7)
        have R7 := Lib.hid (R6.out.keep hb7)
        have B7 := Lib.hid (B6.out.trans (hb7.mono B6.out.size))
        clear hb7 X6 R6 B6 qa qb
        obtain ⟨qa, qb⟩ := sb_two X7.out
        go_wp2_with fail
        refine (C2.out _).mono ?_; rintro e w8 ⟨rfl, hb8⟩
        have X8 := Lib.hid (X7.out.keep hb8)
        have R8 := Lib.hid (R7.out.keep hb8)
        have B8 := Lib.hid (B7.out.trans (hb8.mono B7.out.size))
        clear hb8 X7 R7 B7 qa qb
        obtain ⟨qa, qb⟩ := sb_two X8.out
        go_wp2_with fail
        refine (C3.out _ R8.out).mono ?_; rintro e w9 ⟨rfl, hb9⟩
        have X9 := Lib.hid (X8.out.keep hb9)
        have R9 := Lib.hid (R8.out.keep hb9)
        have B9 := Lib.hid (B8.out.trans (hb9.mono B8.out.size))
        clear hb9 X8 R8 B8 qa qb
        obtain ⟨qa, qb⟩ := sb_two X9.out
        go_wp2_with fail
        refine (C4.out _).mono ?_; rintro e w10 ⟨rfl, hb10⟩
        have X10 := Lib.hid (X9.out.keep hb10)
        have R10 := Lib.hid (R9.out.keep hb10)
        have B10 := Lib.hid (B9.out.trans (hb10.mono B9.out.size))
        clear hb10 X9 R9 B9 qa qb
        obtain ⟨qa, qb⟩ := sb_two X10.out
        go_wp2_with fail
        refine (C5.out _ R10.out).mono ?_; rintro e w11 ⟨rfl, hb11⟩
        have X11 := Lib.hid (X10.out.keep hb11)
        have R11 := Lib.hid (R10.out.keep hb11)
        have B11 := Lib.hid (B10.out.trans (hb11.mono B10.out.size))
        clear hb11 X10 R10 B10 qa qb
        obtain ⟨qa, qb⟩ := sb_two X11.out
        go_wp2_with fail
        refine (HS1.out _ R11.out).mono ?_; rintro e w12 ⟨rfl, hb12⟩
        have X12 := Lib.hid (X11.out.keep hb12)
        have R12 := Lib.hid (R11.out.keep hb12)
        have B12 := Lib.hid (B11.out.trans (hb12.mono B11.out.size))
        clear hb12 X11 R11 B11 qa qb
        obtain ⟨qa, qb⟩ := sb_two X12.out
        go_wp2_with fail
        refine (HSP.out _ R12.out).mono ?_; rintro e w13 ⟨rfl, hb13⟩
        have X13 := Lib.hid (X12.out.keep hb13)
        have R13 := Lib.hid (R12.out.keep hb13)
        have B13 := Lib.hid (B12.out.trans (hb13.mono B12.out.size))
        clear hb13 X12 R12 B12 qa qb
        go_wp2_with fail
        have hl16 := HL16.out
        obtain ⟨ln, hln⟩ : ∃ ln : Nat, ln = L.length := ⟨_, rfl⟩
        have HLN := Lib.hid hln
        go_loopw [23, 24] (fun t i wr => ∃ k : Nat, k ≤ 11 ∧ t = .int .i64 (cB F k) ∧ i = .int .i64 k ∧ Bk wr bx [.slice Au L.length cu, .string s] ∧ Below w.heap.size w wr) (fun _ i _ => 11 - (intOf i).toNat)
        case atStart => exact ⟨0, Nat.zero_le _, rfl, rfl, X13.out, B13.out⟩
        case round =>
          obtain ⟨k, hk, rfl, rfl, hx, hb⟩ := hrel
          have X14 := Lib.hid hx
          have B14 := Lib.hid hb
          clear hx hb X13 B13 R13 hln
          by_cases hlt : k < 11
          · have h11 := HY3.out
            have hks : k < SG.size := by omega
            have hat := HY4.out k hks
            have hcb := cB_le F k
            have HCS : Hid (cB F (k + 1) = cB F k + b2n (F k)) := rfl
            generalize cB F k = N at *
            have i0 : (0 : Int) ≤ (k : Int) := by omega
            have i1 : (k : Int) < (SG.size : Int) := by omega
            have wk : IntKind.i64.wrap ((k : Int) + 1) = (k : Int) + 1 := IntWalk.i64_in _ (by omega)
            have wn : IntKind.i64.wrap ((N : Int) + 1) = (N : Int) + 1 := IntWalk.i64_in _ (by omega)
            cases hF : F k
            · rw [hF] at hat HCS
              have hat2 : (SG[k].toNat : Int) = 48 := hat
              have e1 : (((SG[k].toNat : Nat) : Int) == 49) = false := by rw [hat2]; decide
              have e2 : ((48 : Int) == 49) = false := by decide
              clear hat hF h11
              go_wp2_with fail
              go_roundw
              case rel => exact ⟨k + 1, by omega, by rw [HCS.out]; rfl, by go_num, X14.out, B14.out⟩
              case measure => simp [intOf]; omega
            · rw [hF] at hat HCS
              have hat2 : (SG[k].toNat : Int) = 49 := hat
              have e1 : (((SG[k].toNat : Nat) : Int) == 49) = true := by rw [hat2]; decide
              have e2 : ((49 : Int) == 49) = true := by decide
              clear hat hF h11
              go_wp2_with fail
              go_roundw
              case rel => exact ⟨k + 1, by omega, by rw [HCS.out]; rfl, by go_num, X14.out, B14.out⟩
              case measure => simp [intOf]; omega
          · obtain rfl : k = 11 := by omega
            have h11 : (SG.size : Int) = 11 := by have := HY3.out; omega
            rw [HY5.out]
            obtain ⟨Q, hQ⟩ : ∃ Q : Int, Q = (L.length : Int) + 1 := ⟨_, rfl⟩
            have w1 : IntKind.i64.wrap ((L.length : Int) + 1) = (L.length : Int) + 1 := IntWalk.i64_in _ (by omega)
            obtain ⟨qa, qb⟩ := sb_two X14.out
            clear hQ
            go_wp2_with fail
            go_ret
            exact ⟨rfl, B14.out⟩
end Go.Proofs.Ytddlpbpcdjddpaa

namespace Go.Proofs.Ytddlpbpcdjddpaa
open Go

theorem leaving_of_handed {a : Assume} {C : Checked} {os : Os} {f : FuncId} {r : Reach} {Pre : World → Array Value → Prop} {Post : World → Array Value → Value → World → Prop}
    (h : ReturnsInHanded a C os f r Pre Post) : ReturnsInLeavingWide a C os f r Pre Post := fun enter => by
  obtain ⟨h1, h2, h3, h4, h5⟩ := h enter
  refine ⟨h1, h2, h3, h4, fun w tape i hf => ?_⟩
  obtain ⟨n, v, w', a1, a2, a3, a4, ⟨j, last, b1, b2, b3⟩, a6⟩ := h5 w tape i hf
  exact ⟨n, v, w', a1, a2, a3, a4, ⟨j, last, b1, b2, b3.2.1, onlyLeaving_of_quiet b3.1, b3.2.2⟩, a6⟩
end Go.Proofs.Ytddlpbpcdjddpaa

namespace Go.Proofs.Ytddlpbpcdjddpaa.fnSpread
open Go.ChangeShapes Go.WideShapes Go.ChangeAt Go.RowKit
open Go.ChangeMaps (open_string shut_string)
set_option linter.unusedVariables false

theorem laid : laidOutB Try.prog = true := by kernel_rfl
theorem own : ownKnob Try.prog.godebug = none := by kernel_rfl
set_option maxRecDepth 100000 in
theorem lifted (os : Os) (started : os.Started) (H : Type) (enc : TypeId × Value → H) :
    ReturnsInHanded {} Try.checked os 8 .any (Rows.fnSpreadSpec.pre6 enc Try.prog Try.f8 Rows.fnSpreadRow.domain false) (Rows.fnSpreadSpec.post enc Try.prog Try.f8 false true false false) := by
  refine returnsInHanded_of_change (C := Try.checked) own started (by kernel_rfl) Try.func8
    (ChangeSpec.witness6 (enc := enc) (C := Try.checked) false ⟨#[], #[.slice none 0 0, .slice none 0 0], []⟩ 8 (by kernel_rfl) (by kernel_rfl) (by kernel_rfl) (by kernel_rfl)) ?_
  intro W base args ds gs before hval0 hW hcnd _
  have hval : ∀ (j : Nat) t v, Try.f8.params[j]? = some t → args[j]? = some v → Value.okWide Try.prog W .any base t v := hval0
  have hW' := hW
  obtain ⟨p, q, hA0, hV, rfl, hfz, hnd⟩ := hW
  have hA : DataW.TrodAll enc Try.prog W 0 (fun _ => true) true Try.f8.params.toList args.toList ds p := hA0
  rw [Try.params8] at hA hval
  obtain ⟨v0, vs0, d0, ds0, p0, q0, hargs, rfl, rfl, h0, r0⟩ := trodAll_cons hA
  obtain ⟨v1, vs1, d1, ds1, p1, q1, rfl, rfl, rfl, h1, r1⟩ := trodAll_cons r0
  obtain ⟨rfl, rfl, rfl⟩ := trodAll_nil r1
  obtain rfl : args = #[v0, v1] := by cases args; simp_all
  obtain ⟨rfl, rfl⟩ := trodVars_none hV
  have kk0 := h0
  obtain ⟨ao0, len0, cap0, rfl⟩ := okWide_slice Try.underlying41 (hval 0 41 v0 rfl rfl)
  obtain ⟨fuel0, hf0⟩ := h0
  obtain ⟨l0, R0, F0⟩ := bytes_open (v := .slice ao0 len0 cap0) (by simpa [Value.cells] using hf0)
  have kk1 := h1
  obtain ⟨ao1, len1, cap1, rfl⟩ := okWide_slice Try.underlying41 (hval 1 41 v1 rfl rfl)
  obtain ⟨fuel1, hf1⟩ := h1
  obtain ⟨l1, R1, F1⟩ := bytes_open (v := .slice ao1 len1 cap1) (by simpa [Value.cells] using hf1)
  clear hA0 hval0
  refine (law_FnSpread _ l0 F0 _ l1 F1 W R0 R1).mono fun e W' ⟨he, bel⟩ => ?_
  subst he
  exact ⟨_, rfl, _, _, _, [], _, [], hW', trodAll_mk1 (shut_bool Try.underlying4 _), (trodAll_cons_mk (Go.RowKit.Below.trod laid (by kernel_rfl) (of_decide_eq_true (by kernel_rfl)) kk0 bel (fun x hx => DataW.trod_lt _ _ _ _ kk0.choose_spec x hx)) (trodAll_cons_mk (Go.RowKit.Below.trod laid (by kernel_rfl) (of_decide_eq_true (by kernel_rfl)) kk1 bel (fun x hx => DataW.trod_lt _ _ _ _ kk1.choose_spec x hx)) trodAll_mk0)), rfl, bel.frame _, fun h => by cases h⟩

theorem over : Rows.fnSpreadRow.holds Try.pinned (OpenSpec.ofChange Rows.fnSpreadSpec) :=
  OpenClaim.holds_of_wide 8 Try.f8 rfl rfl rfl rfl rfl rfl rfl ⟨rfl, rfl, rfl, rfl, rfl⟩ rfl rfl rfl rfl rfl (by kernel_rfl) Try.func8 (by kernel_rfl)
    (of_decide_eq_true (by kernel_rfl)) (by unfold Func.isWrapper; first | (rw [if_pos (by decide +kernel)]; kernel_rfl) | (rw [if_neg (by decide +kernel)]; exact ⟨rfl, rfl⟩))
    (fun os started H enc _ => lifted os started H enc)

/-- The statement. -/
theorem proved : Rows.FnSpreadSaid := over
#print axioms proved
end Go.Proofs.Ytddlpbpcdjddpaa.fnSpread

