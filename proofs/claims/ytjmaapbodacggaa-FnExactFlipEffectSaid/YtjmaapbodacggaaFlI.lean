/- The contract of the program's FlipEffect. -/
import Derived.Test.YtjmaapbodacggaaFlP
import Derived.Test.YtjmaapbodacggaaDeI
import Derived.Lib.ConvBytes
import Derived.Lib.AtoiErrMem
import Derived.Laws.IdiomStrings
import Derived.Laws.BytesArg
namespace Go.Proofs.Ytjmaapbodacggaa
open Go Go.RowKit
set_option linter.unusedVariables false

theorem ret_iib2 {x y a b : Int} {c d : Bool} (h : x = y) (h1 : a = b) (h2 : c = d) : Ending.returned (.tuple #[.int .i64 x, .int .i64 a, .bool c]) = .returned (.tuple #[.int .i64 y, .int .i64 b, .bool d]) := by rw [h, h1, h2]
theorem rd_cell2 {w : World} {v : Value} {l : List Int} (h : Rd w v l) (k : Nat) (hk : k < l.length) : ∃ b o c, v = .slice (some ⟨b, o, none⟩) l.length c ∧ b < w.heap.size ∧ w.cell? ⟨b, o + k, none⟩ = some (.int .i64 (l.getD k 0)) := by
  obtain ⟨A, n, c, e, hn, -, -, r⟩ := h
  obtain ⟨b, o, rfl, hb, hc⟩ := r (by omega)
  exact ⟨b, o, c, by rw [e, hn], hb, by rw [← getD_at l k hk]; exact hc k hk⟩
theorem bytes_frozen (w : World) (e : TypeId) (s : ByteArray) (j : Nat) (hj : j < s.size) : (Lib.bytesWorld w e s).frozen? ⟨w.heap.size, j, none⟩ = false := by
  simp [World.frozen?, Lib.bytesWorld_at_new, Lib.bytesCells]
  omega
/-- The bytes of a text of which one is changed are read as a text. -/
theorem conv_flip (W : World) (g cap i : Nat) (b : ByteArray) (hi : i < b.size) (hb : ∀ j, j < b.size → W.cell? ⟨g, j, none⟩ = some (.int .u8 (b.data.toList.getD j 0).toNat)) (x : Int) (hx : x = ((97 - b.data.toList.getD i 0 : UInt8).toNat : Int)) :
    (convert 42 9 (.slice (some ⟨g, 0, none⟩) b.size cap)).run Try.prog (W.setCell ⟨g, i, none⟩ (.int .u8 x)) = .ok (.string (flipB b i)) (W.setCell ⟨g, i, none⟩ (.int .u8 x)) := by
  have hl : (flipL b.data.toList i).length = b.size := by unfold flipL; rw [List.length_set]; simp
  have h := run_convert_bytes_back (P := Try.prog) (W.setCell ⟨g, i, none⟩ (.int .u8 x)) 42 9 5 ⟨g, 0, none⟩ cap (flipL b.data.toList i) Try.underlying42 Try.underlying5 Try.underlying9 (by
    intro j hj
    have hjs : j < b.size := by omega
    have ea : (⟨g, 0, none⟩ : Addr).add j = ⟨g, j, none⟩ := by unfold Addr.add; split <;> simp_all
    rw [ea]
    by_cases e : i = j
    · subst e
      have hg : (flipL b.data.toList i)[i] = 97 - b.data.toList.getD i 0 := List.getElem_set_self _
      rw [hg, World.cell?_setCell_same _ _ _ (hb i hi), hx]
    · have hg : (flipL b.data.toList i)[j] = b.data.toList.getD j 0 := by
        have hjl : j < b.data.toList.length := by simpa using hjs
        rw [List.getD_eq_getElem?_getD, List.getElem?_eq_getElem hjl, Option.getD_some]
        exact List.getElem_set_ne e _
      rw [hg, World.cell?_setCell_other _ _ _ _ (by intro h'; injection h' with _ h' _; exact e h')]
      exact hb j hjs)
  rw [hl] at h
  exact h

theorem ret_sbF {a c : ByteArray} {b d : Bool} (h : a = c) (h1 : b = d) : Ending.returned (.tuple #[.string a, .bool b]) = .returned (.tuple #[.string c, .bool d]) := by rw [h, h1]
theorem flipped_no (V : ByteArray) (at_ : Int) (w : World) (hV : V.size ≤ 4000000) (h : ¬ (0 ≤ at_ ∧ at_ ≤ (V.size : Int) - 1)) :
    Calls Try.prog 66 #[.string V, .int .i64 at_] w fun e w' => e = .returned (.tuple #[.string ⟨#[]⟩, .bool false]) ∧ Below w.heap.size w w' := by
  have HAT := Lib.hid h
  have wv : IntKind.i64.wrap ((V.size : Int) - 1) = (V.size : Int) - 1 := IntWalk.i64_in _ (by omega)
  clear h
  go_enter Try.func66, Try.ntmps66
  go_wp2_with fail
  refine (btw_no _ _ _ _ HAT.out).mono ?_; rintro e w' ⟨rfl, rfl⟩
  go_wp2_with fail
  go_ret2
  exact ⟨rfl, Below.refl _ _⟩
theorem flipped_yes (V : ByteArray) (i : Nat) (w : World) (hV : V.size ≤ 4000000) (hi2 : i < V.size) (hcx : 48 ≤ ((V.data.toList.getD i 0).toNat : Int) ∧ ((V.data.toList.getD i 0).toNat : Int) ≤ 49) :
    Calls Try.prog 66 #[.string V, .int .i64 i] w fun e w' => e = .returned (.tuple #[.string (flipB V i), .bool true]) ∧ Below w.heap.size w w' := by
  have hft := flip_bit hcx
  have hcb := conv_flip (Lib.bytesWorld w 5 V) w.heap.size
  have HCB := Lib.hid (fun cap => conv_flip (Lib.bytesWorld w 5 V) w.heap.size cap i V hi2 (fun j hj => Lib.bytesWorld_cell w 5 V j hj) (97 - ((V.data.toList.getD i 0).toNat : Int)) hft.symm)
  have hbc := Lib.bytesWorld_cell w 5 V i hi2
  have hbf := bytes_frozen w 5 V i hi2
  have hcv := fun (W : World) => Lib.run_convert_string_bytes (P := Try.prog) W 9 42 5 V (u := .string) Try.underlying9 Try.underlying42 Try.underlying5
  have bw := Lib.bytesWorld_below w 5 V
  have hb3 : Below w.heap.size w ((Lib.bytesWorld w 5 V).setCell ⟨w.heap.size, i, none⟩ (.int .u8 (97 - ((V.data.toList.getD i 0).toNat : Int)))) := bw.setCell (p := ⟨w.heap.size, i, none⟩) (Nat.le_refl _) _
  have HB3 := Lib.hid hb3
  obtain ⟨x1, x2⟩ := hcx
  clear hft hcb bw hb3
  have hcb := HCB.out
  generalize (V.data.toList.getD i 0).toNat = C at *
  generalize flipB V i = Z at *
  have a0 : (0 : Int) ≤ (i : Int) := by omega
  have a1 : (i : Int) ≤ (V.size : Int) - 1 := by omega
  have t1 : (i : Int) < (V.size : Int) := by omega
  have wv : IntKind.i64.wrap ((V.size : Int) - 1) = (V.size : Int) - 1 := IntWalk.i64_in _ (by omega)
  go_enter Try.func66, Try.ntmps66
  go_wp2_with fail
  refine (btw_yes _ _ _ _ a0 a1).mono ?_; rintro e w' ⟨rfl, rfl⟩
  go_wp2_with fail
  go_ret2
  exact ⟨rfl, HB3.out⟩

set_option maxHeartbeats 1600000 in
set_option maxRecDepth 100000 in
theorem flipEffect_impl (w : World) (d wd : Int) (vm vp vd : Value) (m p : List ByteArray) (s : Int) (xs : List Int) (at_ : Int) (hm : RdS w vm m) (hp : RdS w vp p) (hd : Rd w vd xs) (sm : ∀ t ∈ m, t.size ≤ 4000000) (sp : ∀ t ∈ p, t.size ≤ 4000000) (lm : m.length ≤ 4000000) (lp : p.length ≤ 4000000) (ha0 : -9223372036854775808 ≤ at_) (ha1 : at_ ≤ 9223372036854775807) :
    Calls Try.prog 26 #[.agg #[.int .i64 d, .int .i64 wd, vm, vp], .int .i64 s, vd, .int .i64 at_] w fun e w' => e = .returned (.tuple #[.int .i64 (feN d wd m p s xs at_), .int .i64 (feW d wd m p s xs at_), .bool (feOk d wd m p s xs at_)]) ∧ Below w.heap.size w w' := by
  obtain ⟨A1, c1, e1⟩ := rds_sh hm
  obtain ⟨A2, c2, e2⟩ := rds_sh hp
  obtain ⟨A3, n3, c3, e3⟩ : ∃ A n c, vd = .slice A n c := by obtain ⟨A, n, c, e, -⟩ := hd; exact ⟨A, n, c, e⟩
  generalize hq1 : m.length = n1 at e1
  generalize hq2 : p.length = n2 at e2
  subst e1 e2 e3
  clear hq1 hq2
  obtain ⟨W1, hW1⟩ : ∃ W1, W1 = w.alloc (.cells #[.int .i64 d, .int .i64 wd, .slice A1 n1 c1, .slice A2 n2 c2] 36) := ⟨_, rfl⟩
  have hB0 : Below w.heap.size w W1 := by rw [hW1]; exact (Below.refl _ _).alloc (Nat.le_refl _) _
  have hbk : Bk W1 w.heap.size (bcV d wd (.slice A1 n1 c1) (.slice A2 n2 c2)) := by rw [hW1]; exact Bk.new w (bcV d wd (.slice A1 n1 c1) (.slice A2 n2 c2)) _ _ rfl
  have HB := Lib.hid hB0
  have HBK := Lib.hid hbk
  have HW := Lib.hid hW1
  have HM := Lib.hid (hm.keep hB0)
  have HP := Lib.hid (hp.keep hB0)
  have HD := Lib.hid (hd.keep hB0)
  have HEN := Lib.hid (encodeBlocks_impl W1 d wd (.slice A1 n1 c1) (.slice A2 n2 c2) (.slice A3 n3 c3) m p s xs HM.out HP.out HD.out sm sp lp)
  have HDE := Lib.hid (fun W b hm hp hb => decodeBlocks_impl W d wd (.slice A1 n1 c1) (.slice A2 n2 c2) m p s b hm hp sm sp lm lp hb)
  clear hm hp hd sm sp hB0 hbk hW1 lm lp
  cases hen : enOk d wd m p s xs
  · have hf : feOk d wd m p s xs at_ = false := by unfold feOk; rw [hen]; rfl
    have HF := Lib.hid hf
    have HE := Lib.hid (fe_no hf)
    rw [hen, (en_no hen).1] at HEN
    have HFL := Lib.hid (fun W => flipped_no ⟨#[]⟩ at_ W (by decide) (by show ¬ (0 ≤ at_ ∧ at_ ≤ (0 : Int) - 1); omega))
    clear hf hen HDE
    generalize enN d wd m p s xs = N at *
    go_enter Try.func26, Try.ntmps26
    go_wp2_with fail
    rw [← HW.out]
    obtain ⟨q0, q1, q2, q3⟩ := bk_all HBK.out
    go_wp2_with fail
    refine HEN.out.mono ?_; rintro e w2 ⟨rfl, hb2⟩
    have HB2 := Lib.hid (HB.out.trans (hb2.mono HB.out.size))
    clear hb2 q0 q1 q2 q3
    go_wp2_with fail
    refine (HFL.out _).mono ?_; rintro e w3 ⟨rfl, hb3⟩
    have HB3 := Lib.hid (HB2.out.trans (hb3.mono HB2.out.size))
    clear hb3
    go_wp2_with fail
    go_ret3
    exact ⟨ret_iib2 HE.out.1.symm HE.out.2.symm HF.out.symm, HB3.out⟩
  rw [hen] at HEN
  obtain ⟨hv, -⟩ := en_yes hen
  rw [hv] at HEN
  obtain ⟨hSb, hSl⟩ := encS_isB hen
  have hS4 : (encS m p s xs).1.size ≤ 400 := by have := (isB_parts hSb).1; simpa using this
  have hfe : feOk d wd m p s xs at_ = decide (0 ≤ at_ ∧ at_ ≤ ((encS m p s xs).1.size : Int) - 1) := by unfold feOk; rw [hen]; rfl
  by_cases hat : 0 ≤ at_ ∧ at_ ≤ ((encS m p s xs).1.size : Int) - 1
  rotate_left
  · have hf : feOk d wd m p s xs at_ = false := by rw [hfe]; exact decide_eq_false hat
    have HF := Lib.hid hf
    have HE := Lib.hid (fe_no hf)
    clear hf hen hv hSb hSl hfe HDE
    generalize enN d wd m p s xs = N at *
    generalize (encS m p s xs).1 = V at *
    have HFL := Lib.hid (fun W => flipped_no V at_ W (by omega) hat)
    clear hat
    go_enter Try.func26, Try.ntmps26
    go_wp2_with fail
    rw [← HW.out]
    obtain ⟨q0, q1, q2, q3⟩ := bk_all HBK.out
    go_wp2_with fail
    refine HEN.out.mono ?_; rintro e w2 ⟨rfl, hb2⟩
    have HB2 := Lib.hid (HB.out.trans (hb2.mono HB.out.size))
    clear hb2 q0 q1 q2 q3
    go_wp2_with fail
    refine (HFL.out _).mono ?_; rintro e w3 ⟨rfl, hb3⟩
    have HB3 := Lib.hid (HB2.out.trans (hb3.mono HB2.out.size))
    clear hb3
    go_wp2_with fail
    go_ret3
    exact ⟨ret_iib2 HE.out.1.symm HE.out.2.symm HF.out.symm, HB3.out⟩
  have hf : feOk d wd m p s xs at_ = true := by rw [hfe]; exact decide_eq_true hat
  obtain ⟨a0, a1⟩ := hat
  obtain ⟨i, rfl⟩ := Int.eq_ofNat_of_zero_le a0
  have hi2 : i < (encS m p s xs).1.size := by omega
  have hN : feN d wd m p s xs i = ((neC (deR d wd m p s (flipB (encS m p s xs).1 i)).1 xs xs.length : Nat) : Int) := by unfold feN feR; rw [hf, if_pos rfl, Int.toNat_natCast]
  have hWw : feW d wd m p s xs i = hd1 (deR d wd m p s (flipB (encS m p s xs).1 i)).2.1 := by unfold feW feR; rw [hf, if_pos rfl, Int.toNat_natCast]
  have hdl := deR_len hen hi2
  have hdy := deOk_flip hen hi2
  obtain ⟨h0, h1, h2, h3⟩ := enOk_parts hen
  obtain ⟨⟨-, w1, w2⟩, -, -⟩ := bcOk_nums h0
  have hX := flip_isB hSb hi2
  have hfs := flipB_size (encS m p s xs).1 i
  have HXL : Hid (xs.length ≤ 200) := by
    show _ ≤ _
    have hh : 400 / wd ≤ 200 := Int.ediv_le_of_le_mul (by omega) (by omega)
    omega
  have hDE := fun W hm hp => HDE.out W (flipB (encS m p s xs).1 i) hm hp (by unfold maxLen; omega)
  rw [hdy] at hDE
  have HDX := Lib.hid hDE
  have hcx : 48 ≤ (((encS m p s xs).1.data.toList.getD i 0).toNat : Int) ∧ (((encS m p s xs).1.data.toList.getD i 0).toNat : Int) ≤ 49 := by
    have hl : i < (encS m p s xs).1.data.toList.length := by simpa using hi2
    have hr := (isB_parts hSb).2
    unfold inR at hr
    rw [List.all_eq_true] at hr
    rw [List.getD_eq_getElem?_getD, List.getElem?_eq_getElem hl, Option.getD_some]
    exact of_decide_eq_true (hr _ (List.getElem_mem hl))
  have HF := Lib.hid hf
  have HN := Lib.hid hN
  have HWW := Lib.hid hWw
  have HDL := Lib.hid hdl
  clear hf hen hv hSb hSl hfe hN hWw hdl hdy h0 h1 h2 h3 hX hfs HDE hDE
  generalize enN d wd m p s xs = N at *
  generalize deR d wd m p s (flipB (encS m p s xs).1 i) = R at *
  generalize hV : (encS m p s xs).1 = V at *
  clear hV
  have HFL := Lib.hid (fun W => flipped_yes V i W (by omega) hi2 hcx)
  clear hcx
  generalize hZ : flipB V i = Z at *
  clear hZ
  go_enter Try.func26, Try.ntmps26
  go_wp2_with fail
  rw [← HW.out]
  obtain ⟨q0, q1, q2, q3⟩ := bk_all HBK.out
  go_wp2_with fail
  refine HEN.out.mono ?_; rintro e u2 ⟨rfl, hb2⟩
  have HB2 := Lib.hid (HB.out.trans (hb2.mono HB.out.size))
  have HBK2 := Lib.hid (HBK.out.keep hb2)
  have HM2 := Lib.hid (HM.out.keep hb2)
  have HP2 := Lib.hid (HP.out.keep hb2)
  have HD2 := Lib.hid (HD.out.keep hb2)
  clear hb2 q0 q1 q2 q3 HB HBK HM HP HD HEN HW
  go_wp2_with fail
  refine (HFL.out _).mono ?_; rintro e u3 ⟨rfl, hb3⟩
  have HB3 := Lib.hid (HB2.out.trans (hb3.mono HB2.out.size))
  have HM3 := Lib.hid (HM2.out.keep hb3)
  have HP3 := Lib.hid (HP2.out.keep hb3)
  have HD3 := Lib.hid (HD2.out.keep hb3)
  obtain ⟨q0, q1, q2, q3⟩ := bk_all (HBK2.out.keep hb3)
  clear hb3 HB2 HBK2 HM2 HP2 HD2 HFL
  go_wp2_with fail
  clear q0 q1 q2 q3
  refine (HDX.out _ HM3.out HP3.out).mono ?_; rintro e u8 ⟨dv, ev, rfl, hdv, hev, -, hb8⟩
  have B8 := Lib.hid (HB3.out.trans (hb8.mono HB3.out.size))
  have D8 := Lib.hid (HD3.out.keep hb8)
  have R8 := Lib.hid hdv.rd
  have E8 := Lib.hid hev.rd
  clear hdv hev hb8 HB3 HD3 HM3 HP3
  obtain ⟨A9, n9, c9, e9⟩ : ∃ A n c, dv = .slice A n c := by obtain ⟨A, n, c, e, -⟩ := R8.out; exact ⟨A, n, c, e⟩
  obtain ⟨A10, n10, c10, e10⟩ : ∃ A n c, ev = .slice A n c := by obtain ⟨A, n, c, e, -⟩ := E8.out; exact ⟨A, n, c, e⟩
  have hn3 : xs.length = n3 := by obtain ⟨A, n, c, e, hn, -⟩ := D8.out; injection e with _ e _; omega
  have hn9 : R.1.length = n9 := by obtain ⟨A, n, c, e, hn, -⟩ := R8.out; rw [e9] at e; injection e with _ e _; omega
  have hn10 : R.2.1.length = n10 := by obtain ⟨A, n, c, e, hn, -⟩ := E8.out; rw [e10] at e; injection e with _ e _; omega
  subst e9 e10
  obtain ⟨l1, l2⟩ := HDL.out
  have H3 := Lib.hid hn3
  have H9 := Lib.hid hn9
  have H10 := Lib.hid hn10
  have L1 := Lib.hid l1
  have hl3 : n3 ≤ 200 := by have := HXL.out; omega
  have hl9 : n9 = n3 := by omega
  subst hl9
  clear hn3 hn9 hn10 l1 l2
  go_wp2_with fail
  go_loopw [20, 54] (fun cn ii wr => ∃ k q : Nat, k ≤ n9 ∧ ii = .int .i64 k ∧ cn = .int .i64 ((neC R.1 xs k : Nat) : Int) ∧ wr = u8.drewN q) (fun _ ii _ => n9 - (intOf ii).toNat)
  case atStart => exact ⟨0, 0, Nat.zero_le _, rfl, rfl, rfl⟩
  case round =>
    obtain ⟨k, q, hk, rfl, rfl, rfl⟩ := hrel
    have hnl := neC_le R.1 xs k
    by_cases hlt : k < n9
    · obtain ⟨ba, oa, ca, ea, -, ga⟩ := rd_cell2 R8.out k (by have := H9.out; omega)
      obtain ⟨bb, ob, cb, eb, -, gb⟩ := rd_cell2 D8.out k (by have := H3.out; omega)
      injection ea with ea _ _
      injection eb with eb _ _
      subst ea eb
      have hk0 : (0 : Int) ≤ (k : Int) := by omega
      have hk1 : (k : Int) < (n9 : Int) := by omega
      have HNS := Lib.hid (neC_succ R.1 xs k)
      generalize R.1.getD k 0 = y1 at *
      generalize xs.getD k 0 = y2 at *
      by_cases hy : y1 = y2
      · have s1 : (y1 != y2) = false := bne_f hy
        have HY : Hid (neC R.1 xs (k + 1) = neC R.1 xs k) := by show _ = _; rw [HNS.out, s1]; rfl
        clear hy
        go_wp2_with fail
        first | (go_quiet (fail); go_wp2_with fail) | skip
        go_roundw
        case rel => exact ⟨k + 1, _, by omega, by go_num, by rw [HY.out], by first | rfl | exact World.drewN_drewN _ _ _⟩
        case measure => simp [intOf]; omega
      · have s1 : (y1 != y2) = true := bne_t hy
        have HY : Hid (neC R.1 xs (k + 1) = neC R.1 xs k + 1) := by show _ = _; rw [HNS.out, s1]; rfl
        clear hy
        go_wp2_with fail
        first | (go_quiet (fail); go_wp2_with fail) | skip
        go_roundw
        case rel => exact ⟨k + 1, _, by omega, by go_num, by rw [HY.out]; go_num, by first | rfl | exact World.drewN_drewN _ _ _⟩
        case measure => simp [intOf]; omega
    · obtain rfl : k = n9 := by omega
      have HNN : Hid (feN d wd m p s xs i = ((neC R.1 xs k : Nat) : Int)) := by show _ = _; rw [HN.out, H3.out]
      cases he : R.2.1 with
      | nil =>
        have HWX : Hid (feW d wd m p s xs i = -1) := by show _ = _; rw [HWW.out, he]; rfl
        have hz : n10 = 0 := by have := H10.out; rw [he] at this; exact this.symm
        subst hz
        clear he
        go_wp2_with fail
        go_ret3
        exact ⟨ret_iib2 HNN.out.symm HWX.out.symm HF.out.symm, below_drewN B8.out q⟩
      | cons e0 es =>
        have HWX : Hid (feW d wd m p s xs i = e0) := by show _ = _; rw [HWW.out, he]; rfl
        obtain ⟨ba, oa, ca, ea, -, ga⟩ := rd_cell2 E8.out 0 (by rw [he]; simp)
        injection ea with ea _ _
        subst ea
        have g2 : R.2.1.getD 0 0 = e0 := by rw [he]; rfl
        rw [g2] at ga
        rw [Nat.add_zero] at ga
        have hz : 0 < n10 := by have := H10.out; rw [he] at this; simp at this; omega
        have hz1 : ((n10 : Int) == 0) = false := beq_f (by omega)
        have hz2 : (0 : Int) < (n10 : Int) := by omega
        clear he g2
        go_wp2_with fail
        first | (go_quiet (fail); go_wp2_with fail) | skip
        go_ret3
        exact ⟨ret_iib2 HNN.out.symm HWX.out.symm HF.out.symm, by first | exact below_drewN B8.out _ | exact below_drewN (below_drewN B8.out _) _⟩
end Go.Proofs.Ytjmaapbodacggaa
