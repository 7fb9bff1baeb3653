/- The contract of the program's DecodeBlocks. -/
import Derived.Test.YtjmaapbodacggaaDeB
import Derived.Test.YtjmaapbodacggaaApp
namespace Go.Proofs.Ytjmaapbodacggaa
open Go Go.RowKit Go.Maps
set_option linter.unusedVariables false

theorem read_st (w : World) (b1 b2 n1 n2 : Nat) (m p : List ByteArray) (s : Int) (hs : s = -1 ∨ s = 1) (x : ByteArray) (h1 : OwnM w b1 n1 m) (h2 : OwnM w b2 n2 p) (hm : m.Nodup) (hp : p.Nodup) (hx : x.size ≤ 4000000) :
    Calls Try.prog 120 #[.agg #[.map (some b1), .map (some b2)], .int .i64 s, .string x] w fun e w' => e = .returned (.tuple #[.int .i64 (deW m p s x).1, .bool (!(deW m p s x).2)]) ∧ Below w.heap.size w w' := by
  rcases hs with rfl | rfl
  · exact read_minus w b1 b2 n1 n2 m p x h1 h2 hm hp hx
  · exact read_plus w b1 b2 n1 n2 m p x h1 h2 hm hp hx
theorem bcOk_nodup {d wd : Int} {m p : List ByteArray} (h : bcOk d wd m p = true) : m.Nodup ∧ p.Nodup := by
  unfold bcOk at h
  obtain ⟨h0, h1⟩ := Bool.and_eq_true_iff.1 h
  obtain ⟨h2, h3⟩ := Bool.and_eq_true_iff.1 h1
  obtain ⟨h4, h5⟩ := Bool.and_eq_true_iff.1 h3
  obtain ⟨h6, h7⟩ := Bool.and_eq_true_iff.1 h5
  exact ⟨(wordsOk_parts h6).1, (wordsOk_parts (Bool.and_eq_true_iff.1 h7).1).1⟩
theorem bk2_all {W : World} {b : Nat} {x y : Value} (h : Bk W b [x, y]) : W.cell? ⟨b, 0, none⟩ = some x ∧ W.cell? ⟨b, 1, none⟩ = some y := ⟨h.c 0 _ rfl, h.c 1 _ rfl⟩

set_option maxHeartbeats 1600000 in
set_option maxRecDepth 100000 in
theorem decodeBlocks_impl (w : World) (d wd : Int) (vm vp : Value) (m p : List ByteArray) (s : Int) (x : ByteArray) (hm : RdS w vm m) (hp : RdS w vp p) (sm : ∀ t ∈ m, t.size ≤ 4000000) (sp : ∀ t ∈ p, t.size ≤ 4000000) (lm : m.length ≤ 4000000) (lp : p.length ≤ 4000000) (hxs : x.size ≤ maxLen) :
    Calls Try.prog 67 #[.agg #[.int .i64 d, .int .i64 wd, vm, vp], .int .i64 s, .string x] w fun e w' => ∃ dv ev, e = .returned (.tuple #[dv, ev, .int .i64 (deR d wd m p s x).2.2, .bool (deOk d wd m p s x)]) ∧ Own w' w.heap.size dv (deR d wd m p s x).1 ∧ Own w' w.heap.size ev (deR d wd m p s x).2.1 ∧ Apart dv ev ∧ Below w.heap.size w w' := by
  obtain ⟨i0, hi, hz0, hz1, hz2⟩ := info_parts Try.infoInt
  obtain ⟨A1, c1, e1⟩ := rds_sh hm
  obtain ⟨A2, c2, e2⟩ := rds_sh hp
  generalize hn1 : m.length = n1 at e1
  generalize hn2 : p.length = n2 at e2
  subst e1 e2
  obtain ⟨W1, hW1⟩ : ∃ W1, W1 = w.alloc (.cells #[.int .i64 d, .int .i64 wd, .slice A1 n1 c1, .slice A2 n2 c2] 36) := ⟨_, rfl⟩
  have hB0 : Below w.heap.size w W1 := by rw [hW1]; exact (Below.refl _ _).alloc (Nat.le_refl _) _
  have hbk : Bk W1 w.heap.size (bcV d wd (.slice A1 n1 c1) (.slice A2 n2 c2)) := by rw [hW1]; exact Bk.new w (bcV d wd (.slice A1 n1 c1) (.slice A2 n2 c2)) _ _ rfl
  have HB := Lib.hid hB0
  have HBK := Lib.hid hbk
  have HW := Lib.hid hW1
  have HM := Lib.hid hm
  have HP := Lib.hid hp
  have HV := Lib.hid (fun W h1 h2 => validBlockCode_impl W d wd (.slice A1 n1 c1) (.slice A2 n2 c2) m p h1 h2 sm sp lp)
  have HBO := Lib.hid (fun W h1 h2 => book_any W d wd (.slice A1 n1 c1) (.slice A2 n2 c2) m p h1 h2 sm sp lm lp)
  have HST := Lib.hid (fun W => isState_any s W)
  have HBT := Lib.hid (fun W => isBits_any x W hxs)
  have hxm : x.size ≤ 9223372036854775807 := by unfold maxLen at hxs; exact hxs
  clear hm hp sm sp hxs lm lp hB0 hbk hW1
  cases hst : stOk s
  · have hf : deOk d wd m p s x = false := by unfold deOk; rw [hst]; simp
    have HF := Lib.hid hf
    have HR := Lib.hid (deR_no hf)
    rw [hst] at HST
    clear hf hst hn1 hn2
    go_enter Try.func67, Try.ntmps67
    go_wp2_with fail
    rw [← HW.out]
    refine (HST.out _).mono ?_; rintro e w' ⟨rfl, rfl⟩
    go_wp2_with fail
    refine bodyPost_ret (v := .tuple #[.slice none 0 0, .slice none 0 0, .int .i64 0, .bool false]) (by simp [results, Try.results67, go_sem]) rfl ⟨_, _, by rw [HR.out, HF.out], by rw [HR.out]; exact own_nil _ _, by rw [HR.out]; exact own_nil _ _, apart_nil, HB.out⟩
  rw [hst] at HST
  cases hok : bcOk d wd m p
  · have hf : deOk d wd m p s x = false := by unfold deOk; rw [hok]; rfl
    have HF := Lib.hid hf
    have HR := Lib.hid (deR_no hf)
    rw [hok] at HV
    clear hok hf hst hn1 hn2
    go_enter Try.func67, Try.ntmps67
    go_wp2_with fail
    rw [← HW.out]
    refine (HST.out _).mono ?_; rintro e w' ⟨rfl, rfl⟩
    obtain ⟨q0, q1, q2, q3⟩ := bk_all HBK.out
    go_wp2_with fail
    refine (HV.out _ (HM.out.keep HB.out) (HP.out.keep HB.out)).mono ?_; rintro e w2 ⟨rfl, hb2⟩
    have HB2 := Lib.hid (HB.out.trans (hb2.mono HB.out.size))
    clear hb2 q0 q1 q2 q3
    go_wp2_with fail
    refine bodyPost_ret (v := .tuple #[.slice none 0 0, .slice none 0 0, .int .i64 0, .bool false]) (by simp [results, Try.results67, go_sem]) rfl ⟨_, _, by rw [HR.out, HF.out], by rw [HR.out]; exact own_nil _ _, by rw [HR.out]; exact own_nil _ _, apart_nil, HB2.out⟩
  rw [hok] at HV
  cases hbt : isB x.data.toList
  · have hf : deOk d wd m p s x = false := by unfold deOk; rw [hbt]; simp
    have HF := Lib.hid hf
    have HR := Lib.hid (deR_no hf)
    rw [hbt] at HBT
    clear hok hf hst hbt hn1 hn2
    go_enter Try.func67, Try.ntmps67
    go_wp2_with fail
    rw [← HW.out]
    refine (HST.out _).mono ?_; rintro e w' ⟨rfl, rfl⟩
    obtain ⟨q0, q1, q2, q3⟩ := bk_all HBK.out
    go_wp2_with fail
    refine (HV.out _ (HM.out.keep HB.out) (HP.out.keep HB.out)).mono ?_; rintro e w2 ⟨rfl, hb2⟩
    have HB2 := Lib.hid (HB.out.trans (hb2.mono HB.out.size))
    clear hb2 q0 q1 q2 q3
    go_wp2_with fail
    refine (HBT.out _).mono ?_; rintro e w3 ⟨rfl, hb3⟩
    have HB3 := Lib.hid (HB2.out.trans (hb3.mono HB2.out.size))
    clear hb3
    go_wp2_with fail
    refine bodyPost_ret (v := .tuple #[.slice none 0 0, .slice none 0 0, .int .i64 0, .bool false]) (by simp [results, Try.results67, go_sem]) rfl ⟨_, _, by rw [HR.out, HF.out], by rw [HR.out]; exact own_nil _ _, by rw [HR.out]; exact own_nil _ _, apart_nil, HB3.out⟩
  rw [hbt] at HBT
  obtain ⟨⟨⟨d1, d2⟩, w1, w2⟩, -, -⟩ := bcOk_nums hok
  obtain ⟨u, rfl⟩ := Int.eq_ofNat_of_zero_le (show 0 ≤ wd by omega)
  by_cases hr : (x.size : Int) % (u : Int) = 0
  rotate_left
  · have hf : deOk d u m p s x = false := by unfold deOk; rw [decide_eq_false hr]; simp
    have HF := Lib.hid hf
    have HR := Lib.hid (deR_no hf)
    have t1 : ((x.size : Int) % (u : Int) != 0) = true := bne_t hr
    clear hok hf hst hbt hr hn1 hn2
    go_enter Try.func67, Try.ntmps67
    go_wp2_with fail
    rw [← HW.out]
    refine (HST.out _).mono ?_; rintro e w' ⟨rfl, rfl⟩
    obtain ⟨q0, q1, q2, q3⟩ := bk_all HBK.out
    go_wp2_with fail
    refine (HV.out _ (HM.out.keep HB.out) (HP.out.keep HB.out)).mono ?_; rintro e w2 ⟨rfl, hb2⟩
    have HB2 := Lib.hid (HB.out.trans (hb2.mono HB.out.size))
    have BK2 := Lib.hid (HBK.out.keep hb2)
    clear hb2 q0 q1 q2 q3
    go_wp2_with fail
    refine (HBT.out _).mono ?_; rintro e w3 ⟨rfl, hb3⟩
    have HB3 := Lib.hid (HB2.out.trans (hb3.mono HB2.out.size))
    obtain ⟨q0, q1, q2, q3⟩ := bk_all (BK2.out.keep hb3)
    clear hb3
    go_wp2_with fail
    refine bodyPost_ret (v := .tuple #[.slice none 0 0, .slice none 0 0, .int .i64 0, .bool false]) (by simp [results, Try.results67, go_sem]) rfl ⟨_, _, by rw [HR.out, HF.out], by rw [HR.out]; exact own_nil _ _, by rw [HR.out]; exact own_nil _ _, apart_nil, HB3.out⟩
  have hy : deOk d u m p s x = true := by unfold deOk; rw [hok, hst, hbt, decide_eq_true hr]; rfl
  have hry := deR_yes hy
  rw [Int.toNat_natCast] at hry
  have hdv : x.size / u * u = x.size := by
    have h0 : x.size % u = 0 := by
      have : ((x.size % u : Nat) : Int) = 0 := by rw [Int.natCast_emod]; exact hr
      omega
    have := Nat.div_add_mod x.size u
    rw [h0, Nat.add_zero, Nat.mul_comm] at this
    exact this
  have hq : (x.size : Int) / (u : Int) = ((x.size / u : Nat) : Int) := by rw [Int.natCast_ediv]
  have hs4 : x.size ≤ 400 := by have := (isB_parts hbt).1; simpa using this
  generalize x.size / u = n at *
  have hn2' : n ≤ 200 := by
    have h1 : n * 2 ≤ n * u := Nat.mul_le_mul_left n (by omega)
    omega
  have HF := Lib.hid hy
  have HRY := Lib.hid hry
  have HNU := Lib.hid hdv
  have HX := Lib.hid hbt
  have HND := Lib.hid (bcOk_nodup hok)
  have hs : s = -1 ∨ s = 1 := of_decide_eq_true hst
  have t1 : ((x.size : Int) % (u : Int) != 0) = false := bne_f hr
  have HQ := Lib.hid hq
  clear hok hst hbt hr hy hry hdv hn1 hn2 hq
  go_enter Try.func67, Try.ntmps67
  go_wp2_with fail
  rw [← HW.out]
  refine (HST.out _).mono ?_; rintro e w' ⟨rfl, rfl⟩
  obtain ⟨q0, q1, q2, q3⟩ := bk_all HBK.out
  go_wp2_with fail
  refine (HV.out _ (HM.out.keep HB.out) (HP.out.keep HB.out)).mono ?_; rintro e u2 ⟨rfl, hb2⟩
  have HB2 := Lib.hid (HB.out.trans (hb2.mono HB.out.size))
  have BK2 := Lib.hid (HBK.out.keep hb2)
  clear hb2 q0 q1 q2 q3 HB HBK HW
  go_wp2_with fail
  refine (HBT.out _).mono ?_; rintro e u3 ⟨rfl, hb3⟩
  have HB3 := Lib.hid (HB2.out.trans (hb3.mono HB2.out.size))
  have BK3 := Lib.hid (BK2.out.keep hb3)
  obtain ⟨q0, q1, q2, q3⟩ := bk_all BK3.out
  clear hb3 HB2 BK2
  go_wp2_with fail
  refine (HBO.out _ (HM.out.keep HB3.out) (HP.out.keep HB3.out)).mono ?_; rintro e u4 ⟨b1, b2, rfl, hm1, hm2, hb4⟩
  have HB4 := Lib.hid (HB3.out.trans (hb4.mono HB3.out.size))
  have BK4 := Lib.hid (BK3.out.keep hb4)
  obtain ⟨W5, hW5⟩ : ∃ W5, W5 = u4.alloc (.cells #[.map (some b1), .map (some b2)] 133) := ⟨_, rfl⟩
  have kb : Below u4.heap.size u4 W5 := by rw [hW5]; exact (Below.refl _ _).alloc (Nat.le_refl _) _
  have hbb : Bk W5 u4.heap.size [.map (some b1), .map (some b2)] := by rw [hW5]; exact Bk.new u4 [.map (some b1), .map (some b2)] _ _ rfl
  have HB5 := Lib.hid (HB4.out.trans (kb.mono HB4.out.size))
  have BK5 := Lib.hid (BK4.out.keep kb)
  have HM1 := Lib.hid (OwnM.keep hm1 kb)
  have HM2 := Lib.hid (OwnM.keep hm2 kb)
  have BB5 := Lib.hid hbb
  have HW5 := Lib.hid hW5
  have p1 := BK5.out.c 1 _ rfl
  rw [hW5] at p1
  have hq := HQ.out
  clear hb4 q0 q1 q2 q3 HB3 BK3 hm1 hm2 kb hbb hW5 HB4
  have r1 := BK4.out.c 1 _ rfl
  clear BK4
  go_wp2_with fail
  rw [← HW5.out]
  clear p1 r1 hq t1 HW5
  go_loopw [10, 11, 13, 47] (fun dv ev st i wr => ∃ k t : Nat, k ≤ n ∧ k * u = t ∧ i = .int .i64 k ∧ st = .int .i64 (deS m p s (wordsL x u k)).2.2 ∧ Own wr W5.heap.size dv (deS m p s (wordsL x u k)).1 ∧ Own wr W5.heap.size ev (deS m p s (wordsL x u k)).2.1 ∧ Apart dv ev ∧ Below W5.heap.size W5 wr) (fun _ _ _ i _ => n - (intOf i).toNat)
  case atStart => exact ⟨0, 0, Nat.zero_le _, Nat.zero_mul u, rfl, rfl, own_nil _ _, own_nil _ _, apart_nil, Below.refl _ _⟩
  case round =>
    obtain ⟨k, t, hk, ht, rfl, rfl, hdv, hev, hap, hb⟩ := hrel
    have HDV := Lib.hid hdv
    have HEV := Lib.hid hev
    have HAP := Lib.hid hap
    have HB := Lib.hid hb
    have HWS := Lib.hid (wordsL_succ x u k)
    obtain ⟨⟨hl1, hl2⟩, hst⟩ := deS_all m p s hs _ (wordsL x u k) (wordsL_len x u k)
    have BS := Lib.hid hb.size
    obtain ⟨Ad, cd, ed⟩ := own_shape hdv
    obtain ⟨Ae, ce, ee⟩ := own_shape hev
    subst ed ee
    have HL1 := Lib.hid hl1
    have hl3 : (deS m p s (wordsL x u k)).1.length ≤ 200 := by omega
    have hl4 : (deS m p s (wordsL x u k)).2.1.length ≤ 200 := by omega
    clear hdv hev hap hb hl1 hl2
    by_cases hlt : k < n
    · have hle : (k + 1) * u ≤ n * u := Nat.mul_le_mul_right u hlt
      rw [Nat.add_mul, Nat.one_mul, HNU.out] at hle
      have htu : t + u ≤ x.size := by omega
      have HS := Lib.hid (deS_snoc m p s (wordsL x u k) (x.extract (k * u) (k * u + u)))
      have hXb := isB_extract x (k * u) (k * u + u) HX.out
      rw [ht] at HS HWS hXb
      have hkt : (k + 1) * u = t + u := by rw [Nat.add_mul, ht]; omega
      have hm1 : (k : Int) * (u : Int) = (t : Int) := by rw [← ht, Int.natCast_mul]
      have hm2 : ((k : Int) + 1) * (u : Int) = (t : Int) + (u : Int) := by rw [Int.add_mul, hm1]; omega
      have HKT := Lib.hid hkt
      have hXS : (x.extract t (t + u)).size ≤ 4000000 := by rw [size_extract' _ _ _ htu]; omega
      clear hle hkt
      generalize hT : (deS m p s (wordsL x u k)).2.2 = T at *
      have HNX := Lib.hid (fun W => behind_any T (x.extract t (t + u)) W hXb)
      have HRD := Lib.hid (fun W h1 h2 => read_st W b1 b2 m.length p.length m p T hst (x.extract t (t + u)) h1 h2 HND.out.1 HND.out.2 hXS)
      have HTT := Lib.hid hT
      clear hT hXb hXS
      have HW1 := Lib.hid (Eq.refl (deW m p T (x.extract t (t + u))))
      generalize hdw : deW m p T (x.extract t (t + u)) = DW at *
      have HDW := Lib.hid hdw
      obtain ⟨F, E⟩ := DW
      clear hdw HW1 hst
      have BKk := Lib.hid (BK5.out.keep HB.out)
      have BBk := Lib.hid (BB5.out.keep HB.out)
      have p1 := BKk.out.c 1 _ rfl
      obtain ⟨p2, p3⟩ := bk2_all BBk.out
      have hk0 : (0 : Int) ≤ (k : Int) := by omega
      have hk1 : (k : Int) < (n : Int) := by omega
      cases E
      · go_wp2_with fail
        refine (HRD.out _ (OwnM.keep HM1.out HB.out) (OwnM.keep HM2.out HB.out)).mono ?_; rintro e w1 ⟨rfl, hb1⟩
        have HDV1 := Lib.hid (HDV.out.keep hb1)
        have HEV1 := Lib.hid (HEV.out.keep hb1)
        have HB1 := Lib.hid (HB.out.trans (hb1.mono HB.out.size))
        have BS1 := Lib.hid HB1.out.size
        clear hb1 p1 p2 p3 HDV HEV HB BS
        go_wp2_with (at_builtin; refine wpList_append_lies _ rfl _ _ 22 rfl W5.heap.size 2 i0 (.int .i64 0) 1 8 Try.underlying22 hi hz0 hz1 hz2 rfl (by decide) _ _ _ rfl (World.ownsRow.alloc HDV1.out _) ⟨w1.heap.size, 0, none⟩ 1 1 [.int .i64 F] rfl rfl ?c1 ?c2 (by decide) ?c3 ?c4 ?c5 (w1.heap.size + 1) (by simp) ?_)
        case c1 => exact c1_b _ _ _
        case c2 => intro u hu; simp at hu; subst hu; rfl
        case c3 => unfold maxLen; omega
        case c4 => omega
        case c5 => have := BS1.out; simp; omega
        intro g2 cap2 w2 hown2 hgrow2 hat2 hlt3
        have HDV2 := Lib.hid (own_snocI hown2)
        have HAP2 := Lib.hid (app_apart (n := (deS m p s (wordsL x u k)).1.length + 1) (cap := cap2) HEV1.out HAP.out.symm hat2 (Nat.le_succ _)).symm
        have HEV2 := Lib.hid (app_other HEV1.out HAP.out.symm hgrow2)
        have HB2 := Lib.hid (below_appN HB1.out BS1.out HDV1.out hgrow2)
        clear hown2 hgrow2 hat2 hlt3 HDV1 HAP HB1 HEV1 BS1
        go_wp2_with fail
        refine (HNX.out _).mono ?_; rintro e w3 ⟨rfl, hb3⟩
        have HDV3 := Lib.hid (HDV2.out.keep hb3)
        have HEV3 := Lib.hid (HEV2.out.keep hb3)
        have HB3 := Lib.hid (HB2.out.trans (hb3.mono HB2.out.size))
        clear hb3 HDV2 HEV2 HB2
        go_wp2_with fail
        go_roundw
        case rel =>
          have hse : deS m p s (wordsL x u (k + 1)) = ((deS m p s (wordsL x u k)).1 ++ [F], (deS m p s (wordsL x u k)).2.1, nxS T (x.extract t (t + u))) := by
            rw [HWS.out, HS.out]; unfold deStep; rw [HTT.out, HDW.out]; rfl
          exact ⟨k + 1, t + u, by omega, HKT.out, by go_num, by rw [hse], by rw [hse]; exact HDV3.out, by rw [hse]; exact HEV3.out, HAP2.out, HB3.out⟩
        case measure => simp [intOf]; omega
      · go_wp2_with fail
        refine (HRD.out _ (OwnM.keep HM1.out HB.out) (OwnM.keep HM2.out HB.out)).mono ?_; rintro e wq ⟨rfl, hb1⟩
        have HDVq := Lib.hid (HDV.out.keep hb1)
        have HEVq := Lib.hid (HEV.out.keep hb1)
        have HBq := Lib.hid (HB.out.trans (hb1.mono HB.out.size))
        have BSq := Lib.hid HBq.out.size
        clear hb1 p1 p2 p3 HDV HEV HB BS
        go_wp2_with (at_builtin; refine wpList_append_lies _ rfl _ _ 22 rfl W5.heap.size 2 i0 (.int .i64 0) 1 8 Try.underlying22 hi hz0 hz1 hz2 rfl (by decide) _ _ _ rfl (World.ownsRow.alloc HEVq.out _) ⟨wq.heap.size, 0, none⟩ 1 1 [.int .i64 k] rfl rfl ?c1 ?c2 (by decide) ?c3 ?c4 ?c5 (wq.heap.size + 1) (by simp) ?_)
        case c1 => exact c1_b _ _ _
        case c2 => intro u hu; simp at hu; subst hu; rfl
        case c3 => unfold maxLen; omega
        case c4 => omega
        case c5 => have := BSq.out; simp; omega
        intro g cap w1 hown' hgrow hat hlt1
        have hev1 := own_snocI hown'
        have hap1 := app_apart (n := (deS m p s (wordsL x u k)).2.1.length + 1) (cap := cap) HDVq.out HAP.out hat (Nat.le_succ _)
        have HDV1 := Lib.hid (app_other HDVq.out HAP.out hgrow)
        have HB1 := Lib.hid (below_appN HBq.out BSq.out HEVq.out hgrow)
        have HEV1 := Lib.hid hev1
        have HAP1 := Lib.hid hap1
        have BS1 := Lib.hid HB1.out.size
        clear hown' hgrow hat hlt1 hev1 hap1 HDVq HAP HBq HEVq BSq
        go_wp2_with (at_builtin; refine wpList_append_lies _ rfl _ _ 22 rfl W5.heap.size 2 i0 (.int .i64 0) 1 8 Try.underlying22 hi hz0 hz1 hz2 rfl (by decide) _ _ _ rfl (World.ownsRow.alloc HDV1.out _) ⟨w1.heap.size, 0, none⟩ 1 1 [.int .i64 F] rfl rfl ?c1 ?c2 (by decide) ?c3 ?c4 ?c5 (w1.heap.size + 1) (by simp) ?_)
        case c1 => exact c1_b _ _ _
        case c2 => intro u hu; simp at hu; subst hu; rfl
        case c3 => unfold maxLen; omega
        case c4 => omega
        case c5 => have := BS1.out; simp; omega
        intro g2 cap2 w2 hown2 hgrow2 hat2 hlt3
        have HDV2 := Lib.hid (own_snocI hown2)
        have HAP2 := Lib.hid (app_apart (n := (deS m p s (wordsL x u k)).1.length + 1) (cap := cap2) HEV1.out HAP1.out.symm hat2 (Nat.le_succ _)).symm
        have HEV2 := Lib.hid (app_other HEV1.out HAP1.out.symm hgrow2)
        have HB2 := Lib.hid (below_appN HB1.out BS1.out HDV1.out hgrow2)
        clear hown2 hgrow2 hat2 hlt3 HDV1 HAP1 HB1 HEV1 BS1
        go_wp2_with fail
        refine (HNX.out _).mono ?_; rintro e w3 ⟨rfl, hb3⟩
        have HDV3 := Lib.hid (HDV2.out.keep hb3)
        have HEV3 := Lib.hid (HEV2.out.keep hb3)
        have HB3 := Lib.hid (HB2.out.trans (hb3.mono HB2.out.size))
        clear hb3 HDV2 HEV2 HB2
        go_wp2_with fail
        go_roundw
        case rel =>
          have hse : deS m p s (wordsL x u (k + 1)) = ((deS m p s (wordsL x u k)).1 ++ [F], (deS m p s (wordsL x u k)).2.1 ++ [(k : Int)], nxS T (x.extract t (t + u))) := by
            rw [HWS.out, HS.out]; unfold deStep; rw [HTT.out, HDW.out, HL1.out]; rfl
          exact ⟨k + 1, t + u, by omega, HKT.out, by go_num, by rw [hse], by rw [hse]; exact HDV3.out, by rw [hse]; exact HEV3.out, HAP2.out, HB3.out⟩
        case measure => simp [intOf]; omega
    · obtain rfl : k = n := by omega
      have HBF := Lib.hid (HB5.out.trans (HB.out.mono HB5.out.size))
      have HD1 := Lib.hid (Own.base HDV.out HB5.out.size)
      have HE1 := Lib.hid (Own.base HEV.out HB5.out.size)
      go_wp2_with fail
      refine bodyPost_ret (v := .tuple #[.slice Ad (deS m p s (wordsL x u k)).1.length cd, .slice Ae (deS m p s (wordsL x u k)).2.1.length ce, .int .i64 (deS m p s (wordsL x u k)).2.2, .bool true]) (by simp [results, Try.results67, go_sem]) rfl ⟨_, _, by rw [HRY.out, HF.out], by rw [HRY.out]; exact HD1.out, by rw [HRY.out]; exact HE1.out, HAP.out, HBF.out⟩
end Go.Proofs.Ytjmaapbodacggaa
