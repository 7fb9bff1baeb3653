/- Contracts of the model's l03Other and FlipEffect. -/
import Derived.Test.YtjmaapbodacggaaFlP
import Derived.Test.YtjmaapbodacggaaDeS
import Derived.Test.YtjmaapbodacggaaOwn
import Derived.Test.YtjmaapbodacggaaBl
import Derived.Deep.RegionHeld3
namespace Go.Proofs.Ytjmaapbodacggaa
open Go Go.RowKit
set_option linter.unusedVariables false

/-- All bits changed. -/
def othL (l : List UInt8) : List UInt8 := l.map fun c => 97 - c
theorem othL_snoc (l : List UInt8) (c : UInt8) : othL (l ++ [c]) = othL l ++ [97 - c] := by simp [othL]
theorem othL_len (l : List UInt8) : (othL l).length = l.length := by simp [othL]

set_option maxRecDepth 100000 in
theorem l03Other_any (s : ByteArray) (w : World) (hs : s.size ≤ 400) (hb : inR 48 49 s.data.toList = true) :
    Calls Try.prog 62 #[.string s] w fun e w' => e = .returned (.string ⟨(othL s.data.toList).toArray⟩) ∧ Below w.heap.size w w' := by
  obtain ⟨i0, hi, hz0, hz1, hz2⟩ := info_parts Try.infoByte
  have HIN := Lib.hid hb
  clear hb
  go_enter Try.func62, Try.ntmps62
  go_wp2_with fail
  go_loopw [3, 4] (fun v i wr => ∃ k : Nat, k ≤ s.size ∧ i = .int .i64 k ∧ wr.ownsRow w.heap.size 5 1 v k (byteVals (othL (s.data.toList.take k))) ∧ Below w.heap.size w wr) (fun _ i _ => s.size - (intOf i).toNat)
  case atStart => exact ⟨0, Nat.zero_le _, rfl, World.ownsRow_made w #[] 0 (Nat.le_refl _) (by decide) rfl, (Below.refl _ _).alloc (Nat.le_refl _) _⟩
  case round =>
    obtain ⟨k, hk, rfl, hown, hb⟩ := hrel
    by_cases hlt : k < s.size
    · have hin := inR_at 48 49 s k hlt HIN.out
      have hft := flip_bit hin
      have HOS : Hid (othL (s.data.toList.take (k + 1)) = othL (s.data.toList.take k) ++ [97 - s[k]]) := by show _ = _; rw [take_snoc s k hlt, othL_snoc]
      obtain ⟨h1, h2⟩ := hin
      have HFT := Lib.hid hft
      have HOWN := Lib.hid hown
      have HB := Lib.hid hb
      clear hft hown hb
      go_wp2_with (at_builtin; refine wpList_append_own _ rfl _ _ 42 rfl w.heap.size 5 i0 (.int .u8 0) 1 1 Try.underlying42 hi hz0 hz1 hz2 rfl (by decide) _ _ _ rfl (World.ownsRow.alloc HOWN.out _) ⟨wr.heap.size, 0, none⟩ 1 1 [.int .u8 (97 - (s[k].toNat : Int))] rfl rfl ?c1 ?c2 ?c3 ?c4 ?c5 ?_)
      case c1 => exact c1_one _ _ _
      case c2 => intro u hu; simp at hu; subst hu; rfl
      case c3 => unfold maxLen; omega
      case c4 => omega
      case c5 => have := HB.out.size; simp; omega
      intro v' w1 hown' hgrow _
      have HB1 := Lib.hid (below_app HB.out HB.out.size HOWN.out hgrow)
      rw [← HFT.out, byteVals_snoc, ← HOS.out] at hown'
      have HO1 := Lib.hid hown'
      clear hgrow hown' HOWN HB
      go_wp2_with fail
      go_roundw
      case rel => exact ⟨k + 1, by omega, by go_num, HO1.out, HB1.out⟩
      case measure => simp [intOf]; omega
    · obtain rfl : k = s.size := by omega
      have e : s.data.toList.take s.size = s.data.toList := take_all s s.size (Nat.lt_irrefl _)
      rw [e] at hown
      have hcv := conv_own hown
      have HB := Lib.hid hb
      clear hb hown e
      go_wp2_with fail
      go_ret
      exact ⟨rfl, HB.out⟩

theorem ret_iib {x y a b : Int} {c d : Bool} (h : x = y) (h1 : a = b) (h2 : c = d) : Ending.returned (.tuple #[.int .i64 x, .int .i64 a, .bool c]) = .returned (.tuple #[.int .i64 y, .int .i64 b, .bool d]) := by rw [h, h1, h2]
theorem rd_cell {w : World} {v : Value} {l : List Int} (h : Rd w v l) (k : Nat) (hk : k < l.length) : ∃ b o c, v = .slice (some ⟨b, o, none⟩) l.length c ∧ b < w.heap.size ∧ w.cell? ⟨b, o + k, none⟩ = some (.int .i64 (l.getD k 0)) := by
  obtain ⟨A, n, c, e, hn, -, -, r⟩ := h
  obtain ⟨b, o, rfl, hb, hc⟩ := r (by omega)
  exact ⟨b, o, c, by rw [e, hn], hb, by rw [← getD_at l k hk]; exact hc k hk⟩

set_option maxHeartbeats 1600000 in
set_option maxRecDepth 100000 in
theorem flipEffect_spec (w : World) (d wd : Int) (vm vp vd : Value) (m p : List ByteArray) (s : Int) (xs : List Int) (at_ : Int) (hm : RdS w vm m) (hp : RdS w vp p) (hd : Rd w vd xs) (sm : ∀ t ∈ m, t.size ≤ 4000000) (sp : ∀ t ∈ p, t.size ≤ 4000000) (ha0 : -9223372036854775808 ≤ at_) (ha1 : at_ ≤ 9223372036854775807) :
    Calls Try.prog 23 #[.agg #[.int .i64 d, .int .i64 wd, vm, vp], .int .i64 s, vd, .int .i64 at_] w fun e w' => e = .returned (.tuple #[.int .i64 (feN d wd m p s xs at_), .int .i64 (feW d wd m p s xs at_), .bool (feOk d wd m p s xs at_)]) ∧ Below w.heap.size w w' := by
  obtain ⟨A1, c1, e1⟩ := rds_sh hm
  obtain ⟨A2, c2, e2⟩ := rds_sh hp
  obtain ⟨A3, n3, c3, e3⟩ : ∃ A n c, vd = .slice A n c := by obtain ⟨A, n, c, e, -⟩ := hd; exact ⟨A, n, c, e⟩
  generalize m.length = n1 at e1
  generalize p.length = n2 at e2
  subst e1 e2 e3
  obtain ⟨W1, hW1⟩ : ∃ W1, W1 = w.alloc (.cells #[.int .i64 d, .int .i64 wd, .slice A1 n1 c1, .slice A2 n2 c2] 36) := ⟨_, rfl⟩
  have hB0 : Below w.heap.size w W1 := by rw [hW1]; exact (Below.refl _ _).alloc (Nat.le_refl _) _
  have hbk : Bk W1 w.heap.size (bcV d wd (.slice A1 n1 c1) (.slice A2 n2 c2)) := by rw [hW1]; exact Bk.new w (bcV d wd (.slice A1 n1 c1) (.slice A2 n2 c2)) _ _ rfl
  have HB := Lib.hid hB0
  have HBK := Lib.hid hbk
  have HW := Lib.hid hW1
  have HM := Lib.hid (hm.keep hB0)
  have HP := Lib.hid (hp.keep hB0)
  have HD := Lib.hid (hd.keep hB0)
  have HEN := Lib.hid (encodeBlocks_spec W1 d wd (.slice A1 n1 c1) (.slice A2 n2 c2) (.slice A3 n3 c3) m p s xs HM.out HP.out HD.out sm sp)
  clear hm hp hd sm sp hB0 hbk hW1
  cases hen : enOk d wd m p s xs
  · have hf : feOk d wd m p s xs at_ = false := by unfold feOk; rw [hen]; rfl
    have HF := Lib.hid hf
    have HE := Lib.hid (fe_no hf)
    rw [hen] at HEN
    clear hf hen
    generalize enV d wd m p s xs = V at *
    generalize enN d wd m p s xs = N at *
    go_enter Try.func23, Try.ntmps23
    go_wp2_with fail
    rw [← HW.out]
    obtain ⟨q0, q1, q2, q3⟩ := bc_all HBK.out
    go_wp2_with fail
    refine HEN.out.mono ?_; rintro e w2 ⟨rfl, hb2⟩
    have HB2 := Lib.hid (HB.out.trans (hb2.mono HB.out.size))
    clear hb2 q0 q1 q2 q3
    go_wp2_with fail
    go_ret3
    exact ⟨ret_iib HE.out.1.symm HE.out.2.symm HF.out.symm, HB2.out⟩
  rw [hen] at HEN
  obtain ⟨hv, -⟩ := en_yes hen
  rw [hv] at HEN
  obtain ⟨hSb, hSl⟩ := encS_isB hen
  have hS4 : (encS m p s xs).1.size ≤ 400 := by have := (isB_parts hSb).1; simpa using this
  have hfe : feOk d wd m p s xs at_ = decide (0 ≤ at_ ∧ at_ ≤ ((encS m p s xs).1.size : Int) - 1) := by unfold feOk; rw [hen]; rfl
  by_cases hat : 0 ≤ at_ ∧ at_ ≤ ((encS m p s xs).1.size : Int) - 1
  rotate_left
  · have hf : feOk d wd m p s xs at_ = false := by rw [hfe]; exact decide_eq_false hat
    have HF := Lib.hid hf
    have HE := Lib.hid (fe_no hf)
    clear hf hen hv hSb hSl hfe
    generalize enN d wd m p s xs = N at *
    generalize (encS m p s xs).1 = V at *
    have HAT := Lib.hid hat
    clear hat
    go_enter Try.func23, Try.ntmps23
    go_wp2_with fail
    rw [← HW.out]
    obtain ⟨q0, q1, q2, q3⟩ := bc_all HBK.out
    go_wp2_with fail
    refine HEN.out.mono ?_; rintro e w2 ⟨rfl, hb2⟩
    have HB2 := Lib.hid (HB.out.trans (hb2.mono HB.out.size))
    clear hb2 q0 q1 q2 q3
    go_wp2_with fail
    refine (l00In_no _ _ _ _ HAT.out).mono ?_; rintro e w' ⟨rfl, rfl⟩
    go_wp2_with fail
    go_ret3
    exact ⟨ret_iib HE.out.1.symm HE.out.2.symm HF.out.symm, HB2.out⟩
  have hf : feOk d wd m p s xs at_ = true := by rw [hfe]; exact decide_eq_true hat
  obtain ⟨a0, a1⟩ := hat
  obtain ⟨i, rfl⟩ := Int.eq_ofNat_of_zero_le a0
  have hi2 : i < (encS m p s xs).1.size := by omega
  have hN : feN d wd m p s xs i = ((neC (deR d wd m p s (flipB (encS m p s xs).1 i)).1 xs xs.length : Nat) : Int) := by unfold feN feR; rw [hf, if_pos rfl, Int.toNat_natCast]
  have hWw : feW d wd m p s xs i = hd1 (deR d wd m p s (flipB (encS m p s xs).1 i)).2.1 := by unfold feW feR; rw [hf, if_pos rfl, Int.toNat_natCast]
  have hdl := deR_len hen hi2
  have hdy := deR_yes (deOk_flip hen hi2)
  obtain ⟨h0, h1, h2, h3⟩ := enOk_parts hen
  obtain ⟨⟨⟨d1, d2⟩, w1, w2⟩, -, -⟩ := bcOk_nums h0
  obtain ⟨u, rfl⟩ := Int.eq_ofNat_of_zero_le (show 0 ≤ wd by omega)
  have hsz : xs.length * u = (flipB (encS m p s xs).1 i).size := by
    rw [flipB_size]
    have h6 : (encS m p s xs).1.size = u * xs.length := by exact_mod_cast hSl
    rw [h6, Nat.mul_comm]
  have hX := flip_isB hSb hi2
  rw [Int.toNat_natCast] at hdy
  have hdv : (flipB (encS m p s xs).1 i).size / u = xs.length := by rw [← hsz, Nat.mul_div_cancel _ (by omega)]
  rw [hdv] at hdy
  have HDE := Lib.hid (fun W hlt hc hm hp => l03Decode_any W w.heap.size d u xs.length (.slice A1 n1 c1) (.slice A2 n2 c2) m p (flipB (encS m p s xs).1 i) s (of_decide_eq_true h1) (by omega) (by omega) hX hsz hlt hc hm hp)
  rw [← hdy] at HDE
  have hfp := flip_parts (encS m p s xs).1 i hi2
  have hoth : (⟨(othL ((encS m p s xs).1.extract i (i + 1)).data.toList).toArray⟩ : ByteArray) = ⟨#[97 - (encS m p s xs).1.data.toList.getD i 0]⟩ := by
    rw [extract_list]
    have hl : i < (encS m p s xs).1.data.toList.length := by simpa using hi2
    rw [List.drop_eq_getElem_cons hl, show i + 1 - i = 1 from by omega, List.take_succ_cons, List.take_zero]
    rw [List.getD_eq_getElem?_getD, List.getElem?_eq_getElem hl, Option.getD_some]
    rfl
  have HO := Lib.hid (fun W => l03Other_any ((encS m p s xs).1.extract i (i + 1)) W (by rw [size_extract' _ _ _ (by omega)]; omega) (isB_parts (isB_extract _ _ _ hSb)).2)
  rw [hoth] at HO
  have hfs := flipB_size (encS m p s xs).1 i
  have HXL : Hid (xs.length ≤ 200) := by
    show _ ≤ _
    have hh : 400 / (u : Int) ≤ 200 := Int.ediv_le_of_le_mul (by omega) (by omega)
    omega
  have HF := Lib.hid hf
  have HN := Lib.hid hN
  have HWW := Lib.hid hWw
  have HDL := Lib.hid hdl
  clear hf hen hv hSb hSl hfe hN hWw hdl hdy h0 h1 h2 h3 hsz hX hdv hoth
  generalize enN d u m p s xs = N at *
  generalize deR d u m p s (flipB (encS m p s xs).1 i) = R at *
  generalize hV : (encS m p s xs).1 = V at *
  clear hV
  generalize flipB V i = Z at *
  generalize 97 - V.data.toList.getD i 0 = X at *
  have hA : (V.extract 0 i).size = i := size_extract' _ _ _ (by omega)
  have hC : (V.extract (i + 1) V.size).size = V.size - (i + 1) := size_extract' _ _ _ (by omega)
  have r1 : ∀ W : World, (Op.stringOp .add (V.extract 0 i) ⟨#[X]⟩).run Try.prog W = .ok (.string (V.extract 0 i ++ ⟨#[X]⟩)) W := fun W => run_string_add_sum W _ _ (by show (V.extract 0 i).size + 1 ≤ _; omega)
  have r2 : ∀ W : World, (Op.stringOp .add (V.extract 0 i ++ ⟨#[X]⟩) (V.extract (i + 1) V.size)).run Try.prog W = .ok (.string Z) W := fun W => by rw [← hfp]; exact run_string_add_sum W _ _ (by rw [ByteArray.size_append]; show (V.extract 0 i).size + 1 + (V.extract (i + 1) V.size).size ≤ _; omega)
  clear hA hC hfp hfs
  go_enter Try.func23, Try.ntmps23
  go_wp2_with fail
  rw [← HW.out]
  obtain ⟨q0, q1, q2, q3⟩ := bc_all HBK.out
  go_wp2_with fail
  refine HEN.out.mono ?_; rintro e u2 ⟨rfl, hb2⟩
  have HB2 := Lib.hid (HB.out.trans (hb2.mono HB.out.size))
  have HBK2 := Lib.hid (HBK.out.keep hb2)
  have HM2 := Lib.hid (HM.out.keep hb2)
  have HP2 := Lib.hid (HP.out.keep hb2)
  have HD2 := Lib.hid (HD.out.keep hb2)
  clear hb2 q0 q1 q2 q3 HB HBK HM HP HD HEN HW
  go_wp2_with fail
  refine (l00In_yes _ _ _ _ a0 a1).mono ?_; rintro e w' ⟨rfl, rfl⟩
  go_wp2_with fail
  have t1 : (0 : Int) ≤ (i : Int) + 1 := by omega
  have t2 : (i : Int) + 1 ≤ (V.size : Int) := by omega
  have t3 : (i : Int) ≤ (i : Int) + 1 := by omega
  have t4 : IntKind.i64.wrap ((i : Int) + 1) = (i : Int) + 1 := IntWalk.i64_in _ (by omega)
  have t5 : ((i : Int) + 1).toNat = i + 1 := by omega
  have t6 : (i : Int) ≤ (V.size : Int) := by omega
  have B6 := Lib.hid HB2.out.drew
  go_region_held3 (fun w' => True) (trivial)
    (first
      | (go_at_call 62; refine (HO.out _).mono ?_; rintro e u7 ⟨rfl, hb7⟩; have B7 := Lib.hid (B6.out.trans (hb7.mono B6.out.size)); have K7 := Lib.hid (HBK2.out.drew.keep hb7); have M7 := Lib.hid ((HM2.out.keep (Below.refl _ _).drew).keep hb7); have P7 := Lib.hid ((HP2.out.keep (Below.refl _ _).drew).keep hb7); have D7 := Lib.hid ((HD2.out.keep (Below.refl _ _).drew).keep hb7); clear hb7)
      | fail)
  all_goals go_wp2_with fail
  refine (HDE.out _ K7.out.2.2 K7.out M7.out P7.out).mono ?_; rintro e u8 ⟨dv, ev, rfl, hdv, hev, hb8⟩
  have B8 := Lib.hid (B7.out.trans (hb8.mono B7.out.size))
  have D8 := Lib.hid (D7.out.keep hb8)
  have R8 := Lib.hid hdv.rd
  have E8 := Lib.hid hev.rd
  clear hdv hev hb8 K7 M7 P7 D7 B7 HO r1 r2 t1 t2 t3 t4 t5 t6
  obtain ⟨A9, n9, c9, e9⟩ : ∃ A n c, dv = .slice A n c := by obtain ⟨A, n, c, e, -⟩ := R8.out; exact ⟨A, n, c, e⟩
  obtain ⟨A10, n10, c10, e10⟩ : ∃ A n c, ev = .slice A n c := by obtain ⟨A, n, c, e, -⟩ := E8.out; exact ⟨A, n, c, e⟩
  have hn3 : xs.length = n3 := by obtain ⟨A, n, c, e, hn, -⟩ := D8.out; injection e with _ e _; omega
  have hn9 : R.1.length = n9 := by obtain ⟨A, n, c, e, hn, -⟩ := R8.out; rw [e9] at e; injection e with _ e _; omega
  have hn10 : R.2.1.length = n10 := by obtain ⟨A, n, c, e, hn, -⟩ := E8.out; rw [e10] at e; injection e with _ e _; omega
  subst e9 e10
  obtain ⟨l1, l2⟩ := HDL.out
  have H3 := Lib.hid hn3
  have H9 := Lib.hid hn9
  have H10 := Lib.hid hn10
  have L1 := Lib.hid l1
  have hl3 : n3 ≤ 200 := by have := HXL.out; omega
  have hl9 : n9 = n3 := by omega
  subst hl9
  clear hn3 hn9 hn10 l1 l2
  go_wp2_with fail
  go_loopw [18, 19] (fun cn ii wr => ∃ k q : Nat, k ≤ n9 ∧ ii = .int .i64 k ∧ cn = .int .i64 ((neC R.1 xs k : Nat) : Int) ∧ wr = u8.drewN q) (fun _ ii _ => n9 - (intOf ii).toNat)
  case atStart => exact ⟨0, 0, Nat.zero_le _, rfl, rfl, rfl⟩
  case round =>
    obtain ⟨k, q, hk, rfl, rfl, rfl⟩ := hrel
    have hnl := neC_le R.1 xs k
    by_cases hlt : k < n9
    · obtain ⟨ba, oa, ca, ea, -, ga⟩ := rd_cell R8.out k (by have := H9.out; omega)
      obtain ⟨bb, ob, cb, eb, -, gb⟩ := rd_cell D8.out k (by have := H3.out; omega)
      injection ea with ea _ _
      injection eb with eb _ _
      subst ea eb
      have hk0 : (0 : Int) ≤ (k : Int) := by omega
      have hk1 : (k : Int) < (n9 : Int) := by omega
      have HNS := Lib.hid (neC_succ R.1 xs k)
      generalize R.1.getD k 0 = y1 at *
      generalize xs.getD k 0 = y2 at *
      by_cases hy : y1 = y2
      · have s1 : (y1 != y2) = false := bne_f hy
        have HY : Hid (neC R.1 xs (k + 1) = neC R.1 xs k) := by show _ = _; rw [HNS.out, s1]; rfl
        clear hy
        go_wp2_with fail
        go_quiet (fail)
        go_wp2_with fail
        go_roundw
        case rel => exact ⟨k + 1, _, by omega, by go_num, by rw [HY.out], by first | rfl | exact World.drewN_drewN _ _ _⟩
        case measure => simp [intOf]; omega
      · have s1 : (y1 != y2) = true := bne_t hy
        have HY : Hid (neC R.1 xs (k + 1) = neC R.1 xs k + 1) := by show _ = _; rw [HNS.out, s1]; rfl
        clear hy
        go_wp2_with fail
        go_quiet (fail)
        go_wp2_with fail
        go_roundw
        case rel => exact ⟨k + 1, _, by omega, by go_num, by rw [HY.out]; go_num, by first | rfl | exact World.drewN_drewN _ _ _⟩
        case measure => simp [intOf]; omega
    · obtain rfl : k = n9 := by omega
      have HNN : Hid (feN d u m p s xs i = ((neC R.1 xs k : Nat) : Int)) := by show _ = _; rw [HN.out, H3.out]
      cases he : R.2.1 with
      | nil =>
        have HWX : Hid (feW d u m p s xs i = -1) := by show _ = _; rw [HWW.out, he]; rfl
        have hz : n10 = 0 := by have := H10.out; rw [he] at this; exact this.symm
        subst hz
        clear he
        go_wp2_with fail
        go_ret3
        exact ⟨ret_iib HNN.out.symm HWX.out.symm HF.out.symm, below_drewN B8.out q⟩
      | cons e0 es =>
        have HWX : Hid (feW d u m p s xs i = e0) := by show _ = _; rw [HWW.out, he]; rfl
        obtain ⟨ba, oa, ca, ea, -, ga⟩ := rd_cell E8.out 0 (by rw [he]; simp)
        injection ea with ea _ _
        subst ea
        have g2 : R.2.1.getD 0 0 = e0 := by rw [he]; rfl
        rw [g2] at ga
        rw [Nat.add_zero] at ga
        have hz : 0 < n10 := by have := H10.out; rw [he] at this; simp at this; omega
        have hz1 : ((n10 : Int) == 0) = false := beq_f (by omega)
        have hz2 : (0 : Int) < (n10 : Int) := by omega
        clear he g2
        go_wp2_with fail
        first | (go_quiet (fail); go_wp2_with fail) | skip
        go_ret3
        exact ⟨ret_iib HNN.out.symm HWX.out.symm HF.out.symm, by first | exact below_drewN B8.out _ | exact below_drewN (below_drewN B8.out _) _⟩
end Go.Proofs.Ytjmaapbodacggaa
