/- Contracts of the model's l03Decode and DecodeBlocks. -/
import Derived.Test.YtnlnoookpcplgaaDeP
import Derived.Test.YtnlnoookpcplgaaEnS
import Derived.Test.YtnlnoookpcplgaaApp
import Derived.Deep.AppendLies
namespace Go.Proofs.Ytnlnoookpcplgaa
open Go Go.RowKit
set_option linter.unusedVariables false

theorem rds_lst {w : World} {vm vp : Value} {m p : List ByteArray} (hm : RdS w vm m) (hp : RdS w vp p) (st : Int) : RdS w (if st < 0 then vm else vp) (lst m p st) := by
  unfold lst; split
  · exact hm
  · exact hp
theorem ret_vvi {a b c d : Value} {x y : Int} (h : a = b) (h1 : c = d) (h2 : x = y) : Ending.returned (.tuple #[a, c, .int .i64 x]) = .returned (.tuple #[b, d, .int .i64 y]) := by rw [h, h1, h2]

set_option maxHeartbeats 1600000 in
set_option maxRecDepth 100000 in
theorem l03Decode_any (w : World) (b : Nat) (d : Int) (u n : Nat) (vm vp : Value) (m p : List ByteArray) (x : ByteArray) (s : Int) (hs : s = -1 ∨ s = 1) (u1 : 2 ≤ u) (u2 : u ≤ 12) (hx : isB x.data.toList = true) (hn : n * u = x.size) (hbl : b < w.heap.size) (hc : Bk w b (bcV d u vm vp)) (hm : RdS w vm m) (hp : RdS w vp p) :
    Calls Try.prog 81 #[.pointer (some ⟨b, 0, none⟩), .int .i64 s, .string x] w fun e w' => ∃ dv ev, e = .returned (.tuple #[dv, ev, .int .i64 (deS m p s (wordsL x u n)).2.2]) ∧ Own w' w.heap.size dv (deS m p s (wordsL x u n)).1 ∧ Own w' w.heap.size ev (deS m p s (wordsL x u n)).2.1 ∧ Below w.heap.size w w' := by
  obtain ⟨i0, hi, hz0, hz1, hz2⟩ := info_parts Try.infoInt
  have hs4 : x.size ≤ 400 := by have := (isB_parts hx).1; simpa using this
  have hn2 : n ≤ 200 := by
    have h1 : n * 2 ≤ n * u := Nat.mul_le_mul_left n u1
    omega
  have HC := Lib.hid hc
  have HM := Lib.hid hm
  have HP := Lib.hid hp
  have HX := Lib.hid hx
  have HNU := Lib.hid hn
  have c1 := hc.c 1 _ rfl
  clear hc hm hp hx hn
  go_enter Try.func81, Try.ntmps81
  go_wp2_with fail
  clear c1
  go_loopw [1, 9, 10, 12] (fun st dv ev i wr => ∃ k t : Nat, k ≤ n ∧ k * u = t ∧ i = .int .i64 t ∧ st = .int .i64 (deS m p s (wordsL x u k)).2.2 ∧ Own wr w.heap.size dv (deS m p s (wordsL x u k)).1 ∧ Own wr w.heap.size ev (deS m p s (wordsL x u k)).2.1 ∧ Apart dv ev ∧ Below w.heap.size w wr) (fun _ _ _ i _ => x.size - (intOf i).toNat)
  case atStart =>
    refine ⟨0, 0, Nat.zero_le _, Nat.zero_mul u, rfl, rfl, ?_, ?_, ?_, ((Below.refl _ _).alloc (Nat.le_refl _) _).alloc (by simp) _⟩
    · exact World.ownsRow.alloc (World.ownsRow_made w #[] 0 (Nat.le_refl _) (by decide) rfl) _
    · have h0 : (w.alloc (.cells #[] 2)).heap.size = w.heap.size + 1 := by simp
      have hr := World.ownsRow_made (base := w.heap.size) (e := 2) (size := 1) (w.alloc (.cells #[] 2)) #[] 0 (by omega) (by decide) rfl
      rw [h0] at hr
      exact hr
    · intro k h1 h2
      simp [Value.ownBlock] at h1 h2
      omega
  case round =>
    obtain ⟨k, t, hk, ht, rfl, rfl, hdv, hev, hap, hb⟩ := hrel
    have HDV := Lib.hid hdv
    have HEV := Lib.hid hev
    have HAP := Lib.hid hap
    have HB := Lib.hid hb
    have HWS := Lib.hid (wordsL_succ x u k)
    obtain ⟨⟨hl1, hl2⟩, hst⟩ := deS_all m p s hs _ (wordsL x u k) (wordsL_len x u k)
    have BS := Lib.hid hb.size
    obtain ⟨Ad, cd, ed⟩ := own_shape hdv
    obtain ⟨Ae, ce, ee⟩ := own_shape hev
    subst ed ee
    have HL1 := Lib.hid hl1
    have hl3 : (deS m p s (wordsL x u k)).1.length ≤ 200 := by omega
    have hl4 : (deS m p s (wordsL x u k)).2.1.length ≤ 200 := by omega
    clear hdv hev hap hb hl1 hl2
    by_cases hlt : k < n
    · have hle : (k + 1) * u ≤ n * u := Nat.mul_le_mul_right u hlt
      rw [Nat.add_mul, Nat.one_mul, HNU.out] at hle
      have htu : t + u ≤ x.size := by omega
      have HS := Lib.hid (deS_snoc m p s (wordsL x u k) (x.extract (k * u) (k * u + u)))
      have hXb := isB_extract x (k * u) (k * u + u) HX.out
      rw [ht] at HS HWS hXb
      have hq : (t : Int) / (u : Int) = (k : Int) := by
        rw [← ht, Int.natCast_mul, Int.mul_ediv_cancel _ (by omega)]
      have hkt : (k + 1) * u = t + u := by rw [Nat.add_mul, ht]; omega
      have HQ := Lib.hid hq
      have HKT := Lib.hid hkt
      have HXS : Hid ((x.extract t (t + u)).size ≤ 4000000) := by show _ ≤ _; rw [size_extract' _ _ _ htu]; omega
      clear hle hq hkt
      generalize hT : (deS m p s (wordsL x u k)).2.2 = T at *
      have HNX := Lib.hid (fun W => l03Next_any T (x.extract t (t + u)) W hXb)
      have HLI := Lib.hid (fun W h => l03List_st W b d u vm vp T hst h)
      have HLJ := Lib.hid (fun W h => l03List_st W b d u vm vp (-T) (by omega) h)
      have CI := Lib.hid (fun W (h : RdS W (if T < 0 then vm else vp) (lst m p T)) => l03Index_any W _ (lst m p T) (x.extract t (t + u)) h)
      have CJ := Lib.hid (fun W (h : RdS W (if -T < 0 then vm else vp) (lst m p (-T))) => l03Index_any W _ (lst m p (-T)) (x.extract t (t + u)) h)
      have HTT := Lib.hid hT
      clear hT hXb
      have hw1 : deW m p T (x.extract t (t + u)) = if fnd (lst m p T) (x.extract t (t + u)) 0 < 0 then (fnd (lst m p (-T)) (x.extract t (t + u)) 0, true) else (fnd (lst m p T) (x.extract t (t + u)) 0, false) := rfl
      have RV := Lib.hid (rds_lst HM.out HP.out T)
      have RW := Lib.hid (rds_lst HM.out HP.out (-T))
      generalize (if T < 0 then vm else vp) = LV at *
      generalize (if -T < 0 then vm else vp) = LW at *
      generalize fnd (lst m p T) (x.extract t (t + u)) 0 = F at *
      generalize fnd (lst m p (-T)) (x.extract t (t + u)) 0 = F2 at *
      have hT0 : -1 ≤ T ∧ T ≤ 1 := by omega
      obtain ⟨T0, T1⟩ := hT0
      have HST := Lib.hid hst
      clear hst
      by_cases hF : F < 0
      · rw [if_pos hF] at hw1
        have HW1 := Lib.hid hw1
        clear hw1
        go_wp2_with fail
        refine (HLI.out _ (HC.out.keep HB.out)).mono ?_; rintro e w' ⟨rfl, rfl⟩
        go_wp2_with fail
        refine (CI.out _ (RV.out.keep HB.out)).mono ?_; rintro e w' ⟨rfl, rfl⟩
        have hq := HQ.out
        go_wp2_with (at_builtin; refine wpList_append_lies _ rfl _ _ 39 rfl w.heap.size 2 i0 (.int .i64 0) 1 8 Try.underlying39 hi hz0 hz1 hz2 rfl (by decide) _ _ _ rfl (World.ownsRow.alloc HEV.out _) ⟨wr.heap.size, 0, none⟩ 1 1 [.int .i64 k] rfl rfl ?c1 ?c2 (by decide) ?c3 ?c4 ?c5 (wr.heap.size + 1) (by simp) ?_)
        case c1 => exact c1_b _ _ _
        case c2 => intro u hu; simp at hu; subst hu; rfl
        case c3 => unfold maxLen; omega
        case c4 => omega
        case c5 => have := BS.out; simp; omega
        intro g cap w1 hown' hgrow hat hlt1
        have hev1 := own_snocI hown'
        have hap1 := app_apart (n := (deS m p s (wordsL x u k)).2.1.length + 1) (cap := cap) HDV.out HAP.out hat (Nat.le_succ _)
        have HDV1 := Lib.hid (app_other HDV.out HAP.out hgrow)
        have HB1 := Lib.hid (below_appN HB.out BS.out HEV.out hgrow)
        have HEV1 := Lib.hid hev1
        have HAP1 := Lib.hid hap1
        clear hown' hgrow hat hlt1 hev1 hap1 hq HDV HAP HB HEV BS
        have hlt2 : b < w1.heap.size := by have := HB1.out.size; omega
        have BS1 := Lib.hid HB1.out.size
        go_wp2_with fail
        refine (HLJ.out _ (HC.out.keep HB1.out)).mono ?_; rintro e w' ⟨rfl, rfl⟩
        go_wp2_with fail
        refine (CJ.out _ (RW.out.keep HB1.out)).mono ?_; rintro e w' ⟨rfl, rfl⟩
        go_wp2_with (at_builtin; refine wpList_append_lies _ rfl _ _ 39 rfl w.heap.size 2 i0 (.int .i64 0) 1 8 Try.underlying39 hi hz0 hz1 hz2 rfl (by decide) _ _ _ rfl (World.ownsRow.alloc HDV1.out _) ⟨w1.heap.size, 0, none⟩ 1 1 [.int .i64 F2] rfl rfl ?c1 ?c2 (by decide) ?c3 ?c4 ?c5 (w1.heap.size + 1) (by simp) ?_)
        case c1 => exact c1_b _ _ _
        case c2 => intro u hu; simp at hu; subst hu; rfl
        case c3 => unfold maxLen; omega
        case c4 => omega
        case c5 => have := BS1.out; simp; omega
        intro g2 cap2 w2 hown2 hgrow2 hat2 hlt3
        have HDV2 := Lib.hid (own_snocI hown2)
        have HAP2 := Lib.hid (app_apart (n := (deS m p s (wordsL x u k)).1.length + 1) (cap := cap2) HEV1.out HAP1.out.symm hat2 (Nat.le_succ _)).symm
        have HEV2 := Lib.hid (app_other HEV1.out HAP1.out.symm hgrow2)
        have HB2 := Lib.hid (below_appN HB1.out BS1.out HDV1.out hgrow2)
        clear hown2 hgrow2 hat2 hlt3 HDV1 HAP1 HB1 HEV1 BS1
        go_wp2_with fail
        refine (HNX.out _).mono ?_; rintro e w' ⟨rfl, rfl⟩
        go_wp2_with fail
        go_roundw
        case rel =>
          have hse : deS m p s (wordsL x u (k + 1)) = ((deS m p s (wordsL x u k)).1 ++ [F2], (deS m p s (wordsL x u k)).2.1 ++ [(k : Int)], nxS T (x.extract t (t + u))) := by
            rw [HWS.out, HS.out]; unfold deStep; rw [HTT.out, HW1.out, HL1.out]; rfl
          exact ⟨k + 1, t + u, by omega, HKT.out, by go_num, by rw [hse], by rw [hse]; exact HDV2.out, by rw [hse]; exact HEV2.out, HAP2.out, HB2.out⟩
        case measure => simp [intOf]; omega
      · rw [if_neg hF] at hw1
        have HW1 := Lib.hid hw1
        clear hw1
        go_wp2_with fail
        refine (HLI.out _ (HC.out.keep HB.out)).mono ?_; rintro e w' ⟨rfl, rfl⟩
        go_wp2_with fail
        refine (CI.out _ (RV.out.keep HB.out)).mono ?_; rintro e w' ⟨rfl, rfl⟩
        go_wp2_with (at_builtin; refine wpList_append_lies _ rfl _ _ 39 rfl w.heap.size 2 i0 (.int .i64 0) 1 8 Try.underlying39 hi hz0 hz1 hz2 rfl (by decide) _ _ _ rfl (World.ownsRow.alloc HDV.out _) ⟨wr.heap.size, 0, none⟩ 1 1 [.int .i64 F] rfl rfl ?c1 ?c2 (by decide) ?c3 ?c4 ?c5 (wr.heap.size + 1) (by simp) ?_)
        case c1 => exact c1_b _ _ _
        case c2 => intro u hu; simp at hu; subst hu; rfl
        case c3 => unfold maxLen; omega
        case c4 => omega
        case c5 => have := BS.out; simp; omega
        intro g2 cap2 w2 hown2 hgrow2 hat2 hlt3
        have HDV2 := Lib.hid (own_snocI hown2)
        have HAP2 := Lib.hid (app_apart (n := (deS m p s (wordsL x u k)).1.length + 1) (cap := cap2) HEV.out HAP.out.symm hat2 (Nat.le_succ _)).symm
        have HEV2 := Lib.hid (app_other HEV.out HAP.out.symm hgrow2)
        have HB2 := Lib.hid (below_appN HB.out BS.out HDV.out hgrow2)
        clear hown2 hgrow2 hat2 hlt3 HDV HAP HB HEV BS
        go_wp2_with fail
        refine (HNX.out _).mono ?_; rintro e w' ⟨rfl, rfl⟩
        go_wp2_with fail
        go_roundw
        case rel =>
          have hse : deS m p s (wordsL x u (k + 1)) = ((deS m p s (wordsL x u k)).1 ++ [F], (deS m p s (wordsL x u k)).2.1, nxS T (x.extract t (t + u))) := by
            rw [HWS.out, HS.out]; unfold deStep; rw [HTT.out, HW1.out]; rfl
          exact ⟨k + 1, t + u, by omega, HKT.out, by go_num, by rw [hse], by rw [hse]; exact HDV2.out, by rw [hse]; exact HEV2.out, HAP2.out, HB2.out⟩
        case measure => simp [intOf]; omega
    · obtain rfl : k = n := by omega
      have htx : ¬ (t : Int) < (x.size : Int) := by have := HNU.out; omega
      go_wp2_with fail
      go_ret3
      exact ⟨_, _, rfl, HDV.out, HEV.out, HB.out⟩


set_option maxHeartbeats 1600000 in
set_option maxRecDepth 100000 in
theorem decodeBlocks_spec (w : World) (d wd : Int) (vm vp : Value) (m p : List ByteArray) (s : Int) (x : ByteArray) (hm : RdS w vm m) (hp : RdS w vp p) (sm : ∀ t ∈ m, t.size ≤ 4000000) (sp : ∀ t ∈ p, t.size ≤ 4000000) (hxs : x.size ≤ maxLen) :
    Calls Try.prog 32 #[.agg #[.int .i64 d, .int .i64 wd, vm, vp], .int .i64 s, .string x] w fun e w' => ∃ dv ev, e = .returned (.tuple #[dv, ev, .int .i64 (deR d wd m p s x).2.2, .bool (deOk d wd m p s x)]) ∧ Own w' w.heap.size dv (deR d wd m p s x).1 ∧ Own w' w.heap.size ev (deR d wd m p s x).2.1 ∧ Below w.heap.size w w' := by
  obtain ⟨A1, c1, e1⟩ := rds_sh hm
  obtain ⟨A2, c2, e2⟩ := rds_sh hp
  generalize m.length = n1 at e1
  generalize p.length = n2 at e2
  subst e1 e2
  obtain ⟨W1, hW1⟩ : ∃ W1, W1 = w.alloc (.cells #[.int .i64 d, .int .i64 wd, .slice A1 n1 c1, .slice A2 n2 c2] 27) := ⟨_, rfl⟩
  have hB0 : Below w.heap.size w W1 := by rw [hW1]; exact (Below.refl _ _).alloc (Nat.le_refl _) _
  have hbk : Bk W1 w.heap.size (bcV d wd (.slice A1 n1 c1) (.slice A2 n2 c2)) := by rw [hW1]; exact Bk.new w (bcV d wd (.slice A1 n1 c1) (.slice A2 n2 c2)) _ _ rfl
  have HB := Lib.hid hB0
  have HBK := Lib.hid hbk
  have HW := Lib.hid hW1
  have HBL : Hid (w.heap.size < W1.heap.size) := by show _ < _; rw [hW1]; simp
  clear hB0 hbk hW1
  have HC := Lib.hid (l03Is_any W1 w.heap.size d wd _ _ m p HBK.out (hm.keep HB.out) (hp.keep HB.out) sm sp)
  have HST := Lib.hid (fun W => l03State_any s W)
  have HBT := Lib.hid (fun W => l01Bits_any x W hxs)
  have hxm : x.size ≤ 9223372036854775807 := by unfold maxLen at hxs; exact hxs
  have HM := Lib.hid (hm.keep HB.out)
  have HP := Lib.hid (hp.keep HB.out)
  clear hm hp sm sp hxs
  cases hok : bcOk d wd m p
  · have hf : deOk d wd m p s x = false := by unfold deOk; rw [hok]; rfl
    have HF := Lib.hid hf
    have HR := Lib.hid (deR_no hf)
    rw [hok] at HC
    clear hok hf
    go_enter Try.func32, Try.ntmps32
    go_wp2_with fail
    rw [← HW.out]
    refine HC.out.mono ?_; rintro e w' ⟨rfl, q, rfl⟩
    go_wp2_with fail
    refine bodyPost_ret (v := .tuple #[.slice none 0 0, .slice none 0 0, .int .i64 0, .bool false]) (by simp [results, Try.results32, go_sem]) rfl ⟨_, _, by rw [HR.out, HF.out], by rw [HR.out]; exact own_nil _ _, by rw [HR.out]; exact own_nil _ _, below_drewN HB.out q⟩
  rw [hok] at HC
  cases hst : stOk s
  · have hf : deOk d wd m p s x = false := by unfold deOk; rw [hst]; simp
    have HF := Lib.hid hf
    have HR := Lib.hid (deR_no hf)
    rw [hst] at HST
    clear hok hf hst
    go_enter Try.func32, Try.ntmps32
    go_wp2_with fail
    rw [← HW.out]
    refine HC.out.mono ?_; rintro e w' ⟨rfl, q, rfl⟩
    go_wp2_with fail
    refine (HST.out _).mono ?_; rintro e w' ⟨rfl, rfl⟩
    go_wp2_with fail
    refine bodyPost_ret (v := .tuple #[.slice none 0 0, .slice none 0 0, .int .i64 0, .bool false]) (by simp [results, Try.results32, go_sem]) rfl ⟨_, _, by rw [HR.out, HF.out], by rw [HR.out]; exact own_nil _ _, by rw [HR.out]; exact own_nil _ _, below_drewN HB.out q⟩
  rw [hst] at HST
  cases hbt : isB x.data.toList
  · have hf : deOk d wd m p s x = false := by unfold deOk; rw [hbt]; simp
    have HF := Lib.hid hf
    have HR := Lib.hid (deR_no hf)
    rw [hbt] at HBT
    clear hok hf hst hbt
    go_enter Try.func32, Try.ntmps32
    go_wp2_with fail
    rw [← HW.out]
    refine HC.out.mono ?_; rintro e w' ⟨rfl, q, rfl⟩
    go_wp2_with fail
    refine (HST.out _).mono ?_; rintro e w' ⟨rfl, rfl⟩
    go_wp2_with fail
    refine (HBT.out _).mono ?_; rintro e w' ⟨rfl, rfl⟩
    go_wp2_with fail
    refine bodyPost_ret (v := .tuple #[.slice none 0 0, .slice none 0 0, .int .i64 0, .bool false]) (by simp [results, Try.results32, go_sem]) rfl ⟨_, _, by rw [HR.out, HF.out], by rw [HR.out]; exact own_nil _ _, by rw [HR.out]; exact own_nil _ _, below_drewN HB.out q⟩
  rw [hbt] at HBT
  obtain ⟨⟨⟨d1, d2⟩, w1, w2⟩, -, -⟩ := bcOk_nums hok
  obtain ⟨u, rfl⟩ := Int.eq_ofNat_of_zero_le (show 0 ≤ wd by omega)
  by_cases hr : (x.size : Int) % (u : Int) = 0
  rotate_left
  · have hf : deOk d u m p s x = false := by unfold deOk; rw [decide_eq_false hr]; simp
    have HF := Lib.hid hf
    have HR := Lib.hid (deR_no hf)
    have t1 : ((x.size : Int) % (u : Int) != 0) = true := bne_t hr
    clear hok hf hst hbt hr
    go_enter Try.func32, Try.ntmps32
    go_wp2_with fail
    rw [← HW.out]
    refine HC.out.mono ?_; rintro e w' ⟨rfl, q, rfl⟩
    go_wp2_with fail
    refine (HST.out _).mono ?_; rintro e w' ⟨rfl, rfl⟩
    go_wp2_with fail
    refine (HBT.out _).mono ?_; rintro e w' ⟨rfl, rfl⟩
    have q1 := (HBK.out.drewN q).c 1 _ rfl
    go_wp2_with fail
    refine bodyPost_ret (v := .tuple #[.slice none 0 0, .slice none 0 0, .int .i64 0, .bool false]) (by simp [results, Try.results32, go_sem]) rfl ⟨_, _, by rw [HR.out, HF.out], by rw [HR.out]; exact own_nil _ _, by rw [HR.out]; exact own_nil _ _, below_drewN HB.out q⟩
  have hy : deOk d u m p s x = true := by unfold deOk; rw [hok, hst, hbt, decide_eq_true hr]; rfl
  have hry := deR_yes hy
  rw [Int.toNat_natCast] at hry
  have hdv : x.size / u * u = x.size := by
    have h0 : x.size % u = 0 := by
      have : ((x.size % u : Nat) : Int) = 0 := by rw [Int.natCast_emod]; exact hr
      omega
    have := Nat.div_add_mod x.size u
    rw [h0, Nat.add_zero, Nat.mul_comm] at this
    exact this
  have HX := Lib.hid (fun q => l03Decode_any _ w.heap.size d u (x.size / u) _ _ m p x s (of_decide_eq_true hst) (by omega) (by omega) hbt hdv (by have := HBL.out; simpa using this) (HBK.out.drewN q) (HM.out.drewN q) (HP.out.drewN q))
  rw [← hry] at HX
  have HF := Lib.hid hy
  have t1 : ((x.size : Int) % (u : Int) != 0) = false := bne_f hr
  clear hok hst hbt hr hy hry hdv
  generalize deR d u m p s x = R at *
  go_enter Try.func32, Try.ntmps32
  go_wp2_with fail
  rw [← HW.out]
  refine HC.out.mono ?_; rintro e w' ⟨rfl, q, rfl⟩
  go_wp2_with fail
  refine (HST.out _).mono ?_; rintro e w' ⟨rfl, rfl⟩
  go_wp2_with fail
  refine (HBT.out _).mono ?_; rintro e w' ⟨rfl, rfl⟩
  have q1 := (HBK.out.drewN q).c 1 _ rfl
  go_wp2_with fail
  refine (HX.out _).mono ?_; rintro e w3 ⟨dv, ev, rfl, hdv, hev, hb3⟩
  have HB3 := Lib.hid ((below_drewN HB.out q).trans (hb3.mono (below_drewN HB.out q).size))
  have HDV := Lib.hid (Own.base hdv (below_drewN HB.out q).size)
  have HEV := Lib.hid (Own.base hev (below_drewN HB.out q).size)
  clear hdv hev hb3
  go_wp2_with fail
  refine bodyPost_ret (v := .tuple #[dv, ev, .int .i64 R.2.2, .bool true]) (by simp [results, Try.results32, go_sem]) rfl ⟨dv, ev, by rw [HF.out], HDV.out, HEV.out, HB3.out⟩
end Go.Proofs.Ytnlnoookpcplgaa
