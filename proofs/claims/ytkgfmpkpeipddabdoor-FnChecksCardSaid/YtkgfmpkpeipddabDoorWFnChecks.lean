/- The walk of the law FnChecks. -/
import Derived.Test.YtkgfmpkpeipddabDoorChP
import Derived.Test.YtkgfmpkpeipddabDoorFnh
import Derived.Test.YtkgfmpkpeipddabDoorErv
namespace Go.Proofs.YtkgfmpkpeipddabDoor
open Go Go.RowKit
set_option linter.unusedVariables false

theorem w64_small (n : Int) (h0 : 0 ≤ n) (h1 : n < 1000000) : wrap64 n = n := by unfold wrap64; omega
theorem ext_to (b : ByteArray) (c : Nat) : (b.extract 0 c).data.toList = b.data.toList.take c := by simp [ByteArray.data_extract]
theorem ext_from (b : ByteArray) (c : Nat) : (b.extract c b.size).data.toList = b.data.toList.drop c := by
  simp only [ByteArray.data_extract, Array.toList_extract, List.extract_eq_take_drop]
  rw [List.take_of_length_le]
  rw [List.length_drop]
  show b.data.toList.length - c ≤ b.size - c
  exact Nat.le_refl _
theorem ba_list (b : ByteArray) : b = ⟨b.data.toList.toArray⟩ := by cases b; simp

set_option maxHeartbeats 4000000 in
set_option maxRecDepth 100000 in
theorem law_FnChecks (v0 : Value) (l0 : List Value) (k0 : ∀ x ∈ l0, ∃ y : Int, x = .int .u8 y ∧ 0 ≤ y ∧ y ≤ 255) (v1 : Value) (l1 : List Value) (k1 : ∀ x ∈ l1, ∃ y : Int, x = .int .u8 y ∧ 0 ≤ y ∧ y ≤ 255) (w : World)
    {x0 : Addr} (e0 : Ev 0 x0 w) (r0 : RdV (· < w.heap.size) w v0 l0) (r1 : RdV (· < w.heap.size) w v1 l1) :
    Calls Tryd.prog 9 #[v0, v1] w fun e w' => e = .returned (.bool true) ∧ Below w.heap.size w w' := by
  have HR0 := Lib.hid r0
  have HK0 := Lib.hid k0
  have HE0 := Lib.hid e0
  have HAT := Lib.hid (fun (k t : Nat) ht => r8At_is w v1 l1 k t ht r1 k1)
  obtain ⟨A0, n0, c0, rfl, hn0, -⟩ := r0
  obtain ⟨A1, n1, c1, rfl, hn1, -⟩ := r1
  clear k0 k1 hn0 hn1 e0
  have HL := Lib.hid (fun W => r8Long_any W A0 A1 n0 c0 n1 c1)
  by_cases hz : 48 < n0 ∨ 48 < n1
  · have hz' : (decide (48 < n0) || decide (48 < n1)) = true := by rcases hz with h | h <;> simp [h]
    rw [hz'] at HL
    clear hz hz' HAT
    go_enter Tryd.func9, Tryd.ntmps9
    go_wp2_with fail
    refine (HL.out _).mono ?_; rintro e w1 ⟨rfl, q, rfl⟩
    go_wp2_with fail
    go_ret
    exact ⟨rfl, below_dn (Below.refl _ _) q⟩
  · have hz' : (decide (48 < n0) || decide (48 < n1)) = false := by simp; omega
    rw [hz'] at HL
    clear hz hz'
    go_enter Tryd.func9, Tryd.ntmps9
    go_wp2_with fail
    refine (HL.out _).mono ?_; rintro e w1 ⟨rfl, q, rfl⟩
    have B1' : Hid (Below w.heap.size w (w.drewN q)) := below_dn (Below.refl _ _) q
    go_wp2_with fail
    refine (r8Check_any _ _ _ (rdv_keepB HR0.out B1'.out) HK0.out).mono ?_; rintro e w2 ⟨p, rfl, hp, hb2⟩
    have B2 := Lib.hid (B1'.out.trans (hb2.mono B1'.out.size))
    clear hb2 B1' HL
    obtain ⟨P, rfl⟩ := Int.eq_ofNat_of_zero_le (show 0 ≤ p by omega)
    go_wp2_with fail
    refine (r8Bits_any _ _ _ 20 (by omega) (rdv_keepB HR0.out B2.out) HK0.out).mono ?_; rintro e w3 ⟨L, rfl, ⟨hL20, hLin⟩, hb3⟩
    have B3 := Lib.hid (B2.out.trans (hb3.mono B2.out.size))
    have hLs : (⟨L.toArray⟩ : ByteArray).size = L.length := by show L.toArray.size = _; simp
    have HLI := Lib.hid hLin
    have HP := Lib.hid hp
    clear hb3 B2 HR0 HK0 hLin hp
    go_wp2_with fail
    go_loopw [7, 8] (fun bs iv wr => ∃ (k : Nat) (M : List UInt8), k ≤ L.length ∧ iv = .int .i64 (k : Int) ∧ bs = .string ⟨M.toArray⟩ ∧ M.length = k ∧ inR 48 49 M = true ∧ Below w.heap.size w wr) (fun _ iv _ => L.length - (intOf iv).toNat)
    case atStart => exact ⟨0, [], Nat.zero_le _, rfl, rfl, rfl, rfl, B3.out⟩
    case round =>
      obtain ⟨k, M, hk, rfl, rfl, hMk, hMin, hb⟩ := hrel
      have HB := Lib.hid hb
      have HMI := Lib.hid hMin
      have HMK := Lib.hid hMk
      clear hb hMin hMk B3
      by_cases hlt : k < L.length
      · have hlt' : (k : Int) < (L.length : Int) := by omega
        obtain ⟨y, ⟨y0, y1⟩, hy⟩ := HAT.out k 2 (by omega)
        have HY : Hid (∀ W, Below w.heap.size w W → Calls Tryd.prog 27 #[.slice A1 n1 c1, .int .i64 (k : Int), .int .i64 2] W fun e w' => e = .returned (.int .i64 y) ∧ W = w') := hy
        obtain ⟨c, hc⟩ := byte_num (48 + y) (by omega) (by omega)
        have e48 : IntKind.i64.wrap (48 + y) = 48 + y := by rw [IntKind.wrap_i64]; omega
        have e8 : IntKind.u8.wrap (48 + y) = (c.toNat : Int) := by
          rw [hc, show IntKind.u8.wrap (48 + y) = (48 + y) % 256 by simp [IntKind.wrap, IntKind.bits, IntKind.signed]]; omega
        have hcn := fun W => conv_uno W c
        have HIN : Hid (inR 48 49 (M ++ [c]) = true) := inR_one HMI.out (by omega)
        obtain ⟨S1, hS1⟩ : ∃ S1 : ByteArray, S1 = ⟨M.toArray⟩ := ⟨_, rfl⟩
        obtain ⟨N1, hN1⟩ : ∃ N1 : ByteArray, N1 = ⟨(M ++ [c]).toArray⟩ := ⟨_, rfl⟩
        have r1 : ∀ W : World, (Op.stringOp .add S1 ⟨#[c]⟩).run Tryd.prog W = .ok (.string N1) W := fun W => by
          have hs : S1.size = k := by rw [hS1]; show M.toArray.size = _; rw [List.size_toArray, HMK.out]
          rw [run_string_add_sum W _ _ (by rw [hs]; show k + 1 ≤ _; omega), hS1, hN1]
          have := ba_app M [c]
          rw [← this]
        rw [← hS1]
        have HN1 := Lib.hid hN1
        have HB2 := Lib.hid (HB.out.alloc HB.out.size (.cells #[.int .u8 (c.toNat : Int)] 5))
        clear hy hc hS1 hN1 y0 y1 HAT
        go_wp2_with fail
        refine (HY.out _ HB.out).mono ?_; rintro e w' ⟨rfl, rfl⟩
        go_wp2_with fail
        go_roundw
        case rel => exact ⟨k + 1, M ++ [c], by omega, by go_num, by rw [HN1.out], by rw [List.length_append, HMK.out]; rfl, HIN.out, HB2.out⟩
        case measure => simp [intOf]; omega
      · obtain rfl : k = L.length := by omega
        have hck : ckB (P : Int) = true := decide_eq_true (by have := HP.out; omega)
        have hg := deg_log (n := P) (by have := HP.out; omega)
        have hD1 := hg.one
        have hD6 : Nat.log2 P ≤ 6 := by
          rcases Nat.lt_or_ge (Nat.log2 P) 7 with h | h
          · omega
          · have := Nat.pow_le_pow_right (show 0 < 2 by omega) h
            have := hg.lo
            have := HP.out
            omega
        have isb : ∀ l : List UInt8, l.length ≤ 400 → inR 48 49 l = true → isB l = true := fun l h1 h2 => by unfold isB; rw [h2, decide_eq_true h1]; rfl
        have hLb := isb L (by omega) HLI.out
        have hMb := isb M (by rw [HMK.out]; omega) HMI.out
        have hxl : (xorB L M L.length).length = L.length := xorB_length _ _ _
        have hXb := isb (xorB L M L.length) (by rw [hxl]; omega) (xorB_inR _ _ _)
        have hcl := fun l => cbL_len P l
        have hcb := fun l => isb (cbL P l) (by rw [hcl]; omega) (cbL_inR P l)
        have hFl : (L ++ cbL P L).length = L.length + Nat.log2 P := by rw [List.length_append, hcl]
        have hFi : inR 48 49 (L ++ cbL P L) = true := by
          unfold inR; rw [List.all_append]
          have h1 := HLI.out
          have h2 := cbL_inR P L
          unfold inR at h1 h2
          rw [h1, h2]; rfl
        have hFb := isb (L ++ cbL P L) (by rw [hFl]; omega) hFi
        have hok : ∀ l, isB l = true → ckOk (P : Int) l = true := fun l h => by unfold ckOk; rw [hck, h]; rfl
        have sz : ∀ l : List UInt8, (⟨l.toArray⟩ : ByteArray).size = l.length := fun l => by show l.toArray.size = _; simp
        have HCB : Hid (∀ (l : List UInt8) W, isB l = true → Below w.heap.size w W → Calls Tryd.prog 13 #[.int .i64 (P : Int), .string ⟨l.toArray⟩] W fun e w' => e = .returned (.tuple #[.string ⟨(cbL P l).toArray⟩, .bool true]) ∧ Below W.heap.size W w') := by
          show ∀ l W, _
          intro l W hl h
          have := checkBits_impl (P : Int) ⟨l.toArray⟩ W (by rw [sz]; have := (isB_parts hl).1; unfold maxLen; omega) x0 (HE0.out.keep h)
          rw [show (⟨l.toArray⟩ : ByteArray).data.toList = l from rfl, cb_yes (hok l hl), hok l hl, Int.toNat_natCast] at this
          exact this
        have hao : acOk (P : Int) (⟨L.toArray⟩ : ByteArray).data.toList = true := by
          show acOk (P : Int) L = true
          unfold acOk
          rw [hok L hLb, Int.toNat_natCast, decide_eq_true (by omega)]; rfl
        have HAC := Lib.hid (fun W (h : Below w.heap.size w W) => addCheck_impl (P : Int) ⟨L.toArray⟩ W (by rw [sz]; unfold maxLen; omega) x0 (HE0.out.keep h))
        rw [ac_yes hao, hao, Int.toNat_natCast, show (⟨L.toArray⟩ : ByteArray).data.toList = L from rfl, ba_app] at HAC
        have HX1 := Lib.hid (fun W => xor_yes_impl ⟨L.toArray⟩ ⟨M.toArray⟩ W hLb hMb (by rw [sz, sz, HMK.out]))
        rw [sz L, show (⟨L.toArray⟩ : ByteArray).data.toList = L from rfl, show (⟨M.toArray⟩ : ByteArray).data.toList = M from rfl] at HX1
        have HX2 := Lib.hid (fun W => xor_yes_impl ⟨(cbL P L).toArray⟩ ⟨(cbL P M).toArray⟩ W (hcb L) (hcb M) (by rw [sz, sz, hcl, hcl]))
        rw [sz (cbL P L), hcl, show (⟨(cbL P L).toArray⟩ : ByteArray).data.toList = cbL P L from rfl, show (⟨(cbL P M).toArray⟩ : ByteArray).data.toList = cbL P M from rfl, ← cbL_xor P L M hg HLI.out HMI.out HMK.out.symm] at HX2
        have H2 := Lib.hid (fun W h => HCB.out L W hLb h)
        have H3 := Lib.hid (fun W h => HCB.out M W hMb h)
        have H5 := Lib.hid (fun W h => HCB.out (xorB L M L.length) W hXb h)
        have HHC := Lib.hid (fun (l : List UInt8) W (hl : l.length ≤ 400) (h : Below w.heap.size w W) => hasCheck_impl (P : Int) ⟨l.toArray⟩ W (by rw [sz]; unfold maxLen; omega) x0 (HE0.out.keep h))
        have H7 := Lib.hid (fun W h => HHC.out (L ++ cbL P L) W (by rw [hFl]; omega) h)
        have h70 : hcB (P : Int) (⟨(L ++ cbL P L).toArray⟩ : ByteArray).data.toList = true := by
          show hcB (P : Int) (L ++ cbL P L) = true
          unfold hcB
          rw [hok _ hFb, Int.toNat_natCast, frame_rd P L hg]; rfl
        rw [h70] at H7
        have H8 := Lib.hid (fun W => isCheck_impl (P : Int) W)
        rw [hck] at H8
        have r9 : ∀ W : World, (Op.stringOp .add ⟨L.toArray⟩ ⟨(cbL P L).toArray⟩).run Tryd.prog W = .ok (.string ⟨(L ++ cbL P L).toArray⟩) W := fun W => by
          rw [run_string_add_sum W _ _ (by rw [sz, sz, hcl]; omega), ba_app]
        have hN : L.length + Nat.log2 P ≤ 26 := by omega
        obtain ⟨N, hNe⟩ : ∃ N, N = L.length + Nat.log2 P := ⟨_, rfl⟩
        have hN1 : 1 ≤ N := by omega
        have hcm : cmOk8 (P : Int) (N : Int) 1 = true := by unfold cmOk8; rw [hck, decide_eq_true (by omega)]; rfl
        have HCM := Lib.hid (fun W (h : Below w.heap.size w W) => countMissed_impl (P : Int) (N : Int) 1 W x0 (HE0.out.keep h))
        rw [cm8_yes hcm, hcm, Int.toNat_natCast, Int.toNat_natCast, show (1 : Int).toNat = 1 from rfl] at HCM
        obtain ⟨y, ⟨y0, y1⟩, hy⟩ := HAT.out 30 N (by omega)
        obtain ⟨AT, rfl⟩ := Int.eq_ofNat_of_zero_le y0
        have HY : Hid (∀ W, Below w.heap.size w W → Calls Tryd.prog 27 #[.slice A1 n1 c1, .int .i64 30, .int .i64 (N : Int)] W fun e w' => e = .returned (.int .i64 (AT : Int)) ∧ W = w') := hy
        obtain ⟨F, hF⟩ : ∃ F : ByteArray, F = ⟨(L ++ cbL P L).toArray⟩ := ⟨_, rfl⟩
        have hFs : F.size = N := by rw [hF, sz, hFl, hNe]
        have hatN : AT < F.size := by omega
        have hFd : F.data.toList = L ++ cbL P L := by rw [hF]
        have hget : F[AT] = (L ++ cbL P L)[AT]'(by rw [hFl]; omega) := by
          have : F[AT] = F.data.toList[AT]'(by show AT < F.data.toList.length; rw [hFd, hFl]; omega) := rfl
          rw [this]; simp only [hFd]
        have hbit := bit_of hFi AT (by rw [hFl]; omega)
        rw [← hget] at hbit
        obtain ⟨d, hd⟩ : ∃ d : UInt8, (F[AT] = 48 ∧ d = 49) ∨ (F[AT] = 49 ∧ d = 48) := by
          rcases hbit with h | h
          · exact ⟨49, .inl ⟨h, rfl⟩⟩
          · exact ⟨48, .inr ⟨h, rfl⟩⟩
        have hsum : 97 - (F[AT].toNat : Int) = (d.toNat : Int) := by
          rcases hd with ⟨h, rfl⟩ | ⟨h, rfl⟩ <;> rw [h] <;> rfl
        have e97 : IntKind.u8.wrap (97 - (F[AT].toNat : Int)) = (d.toNat : Int) := by
          rw [hsum, show IntKind.u8.wrap (d.toNat : Int) = (d.toNat : Int) % 256 by simp [IntKind.wrap, IntKind.bits, IntKind.signed]]
          have := UInt8.toNat_lt d
          omega
        have hspl : L ++ cbL P L = (L ++ cbL P L).take AT ++ [F[AT]] ++ (L ++ cbL P L).drop (AT + 1) := by
          rw [hget, List.append_assoc, List.singleton_append, List.getElem_cons_drop, List.take_append_drop]
        obtain ⟨G, hG⟩ : ∃ G : List UInt8, G = (L ++ cbL P L).take AT ++ [d] ++ (L ++ cbL P L).drop (AT + 1) := ⟨_, rfl⟩
        have hdi : inR 48 49 [d] = true := by rcases hd with ⟨-, rfl⟩ | ⟨-, rfl⟩ <;> decide
        have hdr : inR 48 49 ((L ++ cbL P L).drop (AT + 1)) = true := by
          unfold inR at hFi ⊢
          rw [List.all_eq_true] at hFi ⊢
          exact fun x hx => hFi x (List.mem_of_mem_drop hx)
        have htk : inR 48 49 ((L ++ cbL P L).take AT) = true := by
          unfold inR at hFi ⊢
          rw [List.all_eq_true] at hFi ⊢
          exact fun x hx => hFi x (List.mem_of_mem_take hx)
        have hGi : inR 48 49 G = true := by
          rw [hG]
          unfold inR at hdi hdr htk ⊢
          rw [List.all_append, List.all_append, hdi, hdr, htk]; rfl
        have htl : ((L ++ cbL P L).take AT).length = AT := by rw [List.length_take, hFl]; omega
        have hdl : ((L ++ cbL P L).drop (AT + 1)).length = N - (AT + 1) := by rw [List.length_drop, hFl, ← hNe]
        have hGl : G.length = N := by
          rw [hG, List.length_append, List.length_append, htl, hdl, List.length_singleton]; omega
        have hgm : rd P (Nat.log2 P) (nbl G) = 0 → 0 < cmN P (Nat.log2 P) N 1 := by
          intro h
          have h0 := frame_rd P L hg
          rw [hspl] at h0
          rw [hG] at h
          have := bent_missed P _ _ (F[AT]) d hg hdr hd h0 h
          rw [htl, hdl, show AT + 1 + (N - (AT + 1)) = N by omega] at this
          exact this
        have HG7 := Lib.hid (fun W h => HHC.out G W (by rw [hGl]; omega) h)
        have hg7 : ¬ 0 < cmN P (Nat.log2 P) N 1 → hcB (P : Int) (⟨G.toArray⟩ : ByteArray).data.toList = false := by
          intro h
          show hcB (P : Int) G = false
          unfold hcB
          rw [Int.toNat_natCast, decide_eq_false (fun e => h (hgm e))]; simp
        obtain ⟨G1, hG1⟩ : ∃ G1 : ByteArray, G1 = ⟨((L ++ cbL P L).take AT ++ [d]).toArray⟩ := ⟨_, rfl⟩
        have r10 : ∀ W : World, (Op.stringOp .add (F.extract 0 AT) ⟨#[d]⟩).run Tryd.prog W = .ok (.string G1) W := fun W => by
          have h1 : F.extract 0 AT = ⟨((L ++ cbL P L).take AT).toArray⟩ := by
            rw [ba_list (F.extract 0 AT), ext_to, hFd]
          rw [h1, run_string_add_sum W _ _ (by rw [sz, htl]; show AT + 1 ≤ _; omega), hG1]
          have := ba_app ((L ++ cbL P L).take AT) [d]
          rw [← this]
        have r11 : ∀ W : World, (Op.stringOp .add G1 (F.extract (AT + 1) F.size)).run Tryd.prog W = .ok (.string ⟨G.toArray⟩) W := fun W => by
          have h1 : F.extract (AT + 1) F.size = ⟨((L ++ cbL P L).drop (AT + 1)).toArray⟩ := by
            rw [ba_list (F.extract (AT + 1) F.size), ext_from, hFd]
          rw [h1, run_string_add_sum W _ _ (by rw [hG1, sz, sz, hdl, List.length_append, htl, List.length_singleton]; omega), hG1, ba_app, hG]
        have hcn : ∀ W : World, (convert 32 9 (.slice (some ⟨W.heap.size, 0, none⟩) 1 1)).run Tryd.prog ((W.alloc (.cells #[.int .u8 (d.toNat : Int)] 5)).drew) = .ok (.string ⟨#[d]⟩) ((W.alloc (.cells #[.int .u8 (d.toNat : Int)] 5)).drew) := fun W => conv_uno W.drew d
        have hA0 : (0 : Int) ≤ (AT : Int) := by omega
        have hA1 : (AT : Int) < (F.size : Int) := by omega
        have hA2 : (AT : Int) ≤ (F.size : Int) := by omega
        have hA3 : (AT : Int) + 1 ≤ (F.size : Int) := by omega
        have hA4 : ((AT : Int) + 1).toNat = AT + 1 := by omega
        have HW1 := Lib.hid (w64_small ((AT : Int) + 1) (by omega) (by omega))
        rw [← hF] at HAC H7 r9
        obtain ⟨GG, hGG⟩ : ∃ GG : ByteArray, GG = ⟨G.toArray⟩ := ⟨_, rfl⟩
        rw [← hGG] at HG7 r11 hg7
        obtain ⟨X, hX⟩ : ∃ X : ByteArray, X = ⟨(cbL P L).toArray⟩ := ⟨_, rfl⟩
        obtain ⟨Y, hY⟩ : ∃ Y : ByteArray, Y = ⟨(cbL P M).toArray⟩ := ⟨_, rfl⟩
        obtain ⟨BO, hBO⟩ : ∃ BO : ByteArray, BO = ⟨(xorB L M L.length).toArray⟩ := ⟨_, rfl⟩
        obtain ⟨Z, hZ⟩ : ∃ Z : ByteArray, Z = ⟨(cbL P (xorB L M L.length)).toArray⟩ := ⟨_, rfl⟩
        obtain ⟨A, hA⟩ : ∃ A : ByteArray, A = ⟨L.toArray⟩ := ⟨_, rfl⟩
        obtain ⟨Bm, hBm⟩ : ∃ Bm : ByteArray, Bm = ⟨M.toArray⟩ := ⟨_, rfl⟩
        rw [← hX] at H2 HX2 r9
        rw [← hY] at H3 HX2
        rw [← hBO] at HX1 H5
        rw [← hZ] at H5 HX2
        rw [← hA] at HAC HX1 H2 r9 hLs
        rw [← hBm] at HX1 H3
        generalize cmN P (Nat.log2 P) N 1 = CM at *
        have HFS := Lib.hid hFs
        rw [← hA, ← hBm]
        clear hck hg hD1 hD6 isb hLb hMb hxl hXb hcl hcb hFl hFi hFb hok sz HCB hao HHC h70 hN hNe hN1 hcm y0 y1 hy hF hFd hget hbit hd hsum hspl hG hdi hdr htk hGi htl hdl hGl hgm hG1 hX hY hBO hZ hA hBm hGG HAT hk hlt
        go_wp2_with fail
        refine (HAC.out _ HB.out).mono ?_; rintro e u1 ⟨rfl, hbn⟩
        have HB1 : Hid (Below w.heap.size w u1) := HB.out.trans (hbn.mono HB.out.size)
        clear hbn HAC
        go_wp2_with fail
        refine (H2.out _ HB1.out).mono ?_; rintro e u2 ⟨rfl, hbn⟩
        have HB2 : Hid (Below w.heap.size w u2) := HB1.out.trans (hbn.mono HB1.out.size)
        clear hbn H2
        go_wp2_with fail
        refine (H3.out _ HB2.out).mono ?_; rintro e u3 ⟨rfl, hbn⟩
        have HB3 : Hid (Below w.heap.size w u3) := HB2.out.trans (hbn.mono HB2.out.size)
        clear hbn H3
        go_wp2_with fail
        refine (HX1.out _).mono ?_; rintro e u4 ⟨rfl, hbn⟩
        have HB4 : Hid (Below w.heap.size w u4) := HB3.out.trans (hbn.mono HB3.out.size)
        clear hbn HX1
        go_wp2_with fail
        refine (H5.out _ HB4.out).mono ?_; rintro e u5 ⟨rfl, hbn⟩
        have HB5 : Hid (Below w.heap.size w u5) := HB4.out.trans (hbn.mono HB4.out.size)
        clear hbn H5
        go_wp2_with fail
        refine (HX2.out _).mono ?_; rintro e u6 ⟨rfl, hbn⟩
        have HB6 : Hid (Below w.heap.size w u6) := HB5.out.trans (hbn.mono HB5.out.size)
        clear hbn HX2
        go_wp2_with fail
        refine (H7.out _ HB6.out).mono ?_; rintro e u7 ⟨rfl, hbn⟩
        have HB7 : Hid (Below w.heap.size w u7) := HB6.out.trans (hbn.mono HB6.out.size)
        clear hbn H7
        go_wp2_with fail
        refine (H8.out _).mono ?_; rintro e u8 ⟨rfl, hbn⟩
        have HB8 : Hid (Below w.heap.size w u8) := HB7.out.trans (hbn.mono HB7.out.size)
        clear hbn H8
        rw [HFS.out] at hA1 hA2 hA3
        go_wp2_with fail
        refine (HY.out _ HB8.out).mono ?_; rintro e w' ⟨rfl, rfl⟩
        go_wp2_with fail
        rw [HFS.out] at r11
        have B9 : Hid (Below w.heap.size w ((u8.alloc (.cells #[.int .u8 (d.toNat : Int)] 5)).drew)) := (HB8.out.alloc HB8.out.size _).drew
        have hw1 := HW1.out
        go_region
        by_cases hcm0 : 0 < CM
        · have hcmi : (0 : Int) < (CM : Int) := by omega
          go_wp2_with fail
          refine (HCM.out _ B9.out).mono ?_; rintro e u9 ⟨rfl, hbn⟩
          have HB9 : Hid (Below w.heap.size w u9) := B9.out.trans (hbn.mono B9.out.size)
          clear hbn
          go_wp2_with fail
          go_ret
          exact ⟨rfl, HB9.out⟩
        · have hg8 := hg7 hcm0
          rw [hg8] at HG7
          obtain rfl : CM = 0 := by omega
          rw [show ((0 : Nat) : Int) = 0 from rfl] at HCM
          go_wp2_with fail
          refine (HCM.out _ B9.out).mono ?_; rintro e u9 ⟨rfl, hbn⟩
          have HB9 : Hid (Below w.heap.size w u9) := B9.out.trans (hbn.mono B9.out.size)
          clear hbn
          go_wp2_with fail
          refine (HG7.out _ HB9.out).mono ?_; rintro e u10 ⟨rfl, hbn⟩
          have HB10 : Hid (Below w.heap.size w u10) := HB9.out.trans (hbn.mono HB9.out.size)
          clear hbn
          go_wp2_with fail
          go_ret
          exact ⟨rfl, HB10.out⟩
end Go.Proofs.YtkgfmpkpeipddabDoor
