/- Contracts of the model's l03Decode and DecodeBlocks. -/
import Derived.Test.YtjmaapbodacggaaDeP
import Derived.Test.YtjmaapbodacggaaEnS
import Derived.Test.YtjmaapbodacggaaApp
import Derived.Deep.AppendLies
namespace Go.Proofs.Ytjmaapbodacggaa
open Go Go.RowKit
set_option linter.unusedVariables false

theorem rds_lst {w : World} {vm vp : Value} {m p : List ByteArray} (hm : RdS w vm m) (hp : RdS w vp p) (st : Int) : RdS w (if st < 0 then vm else vp) (lst m p st) := by
  unfold lst; split
  · exact hm
  · exact hp
theorem ret_vvi {a b c d : Value} {x y : Int} (h : a = b) (h1 : c = d) (h2 : x = y) : Ending.returned (.tuple #[a, c, .int .i64 x]) = .returned (.tuple #[b, d, .int .i64 y]) := by rw [h, h1, h2]

set_option maxHeartbeats 1600000 in
set_option maxRecDepth 100000 in
theorem l03Decode_any (w : World) (b : Nat) (d : Int) (u n : Nat) (vm vp : Value) (m p : List ByteArray) (x : ByteArray) (s : Int) (hs : s = -1 ∨ s = 1) (u1 : 2 ≤ u) (u2 : u ≤ 12) (hx : isB x.data.toList = true) (hn : n * u = x.size) (hbl : b < w.heap.size) (hc : Bk w b (bcV d u vm vp)) (hm : RdS w vm m) (hp : RdS w vp p) :
    Calls Try.prog 63 #[.pointer (some ⟨b, 0, none⟩), .int .i64 s, .string x] w fun e w' => ∃ dv ev, e = .returned (.tuple #[dv, ev, .int .i64 (deS m p s (wordsL x u n)).2.2]) ∧ Own w' w.heap.size dv (deS m p s (wordsL x u n)).1 ∧ Own w' w.heap.size ev (deS m p s (wordsL x u n)).2.1 ∧ Below w.heap.size w w' := by
  obtain ⟨i0, hi, hz0, hz1, hz2⟩ := info_parts Try.infoInt
  have hs4 : x.size ≤ 400 := by have := (isB_parts hx).1; simpa using this
  have hn2 : n ≤ 200 := by
    have h1 : n * 2 ≤ n * u := Nat.mul_le_mul_left n u1
    omega
  have HC := Lib.hid hc
  have HM := Lib.hid hm
  have HP := Lib.hid hp
  have HX := Lib.hid hx
  have HNU := Lib.hid hn
  have c1 := hc.c 1 _ rfl
  clear hc hm hp hx hn
  go_enter Try.func63, Try.ntmps63
  go_wp2_with fail
  clear c1
  go_loopw [1, 9, 10, 12] (fun st dv ev i wr => ∃ k t : Nat, k ≤ n ∧ k * u = t ∧ i = .int .i64 t ∧ st = .int .i64 (deS m p s (wordsL x u k)).2.2 ∧ Own wr w.heap.size dv (deS m p s (wordsL x u k)).1 ∧ Own wr w.heap.size ev (deS m p s (wordsL x u k)).2.1 ∧ Apart dv ev ∧ Below w.heap.size w wr) (fun _ _ _ i _ => x.size - (intOf i).toNat)
  case atStart =>
    refine ⟨0, 0, Nat.zero_le _, Nat.zero_mul u, rfl, rfl, ?_, ?_, ?_, ((Below.refl _ _).alloc (Nat.le_refl _) _).alloc (by simp) _⟩
    · exact World.ownsRow.alloc (World.ownsRow_made w #[] 0 (Nat.le_refl _) (by decide) rfl) _
    · have h0 : (w.alloc (.cells #[] 2)).heap.size = w.heap.size + 1 := by simp
      have hr := World.ownsRow_made (base := w.heap.size) (e := 2) (size := 1) (w.alloc (.cells #[] 2)) #[] 0 (by omega) (by decide) rfl
      rw [h0] at hr
      exact hr
    · intro k h1 h2
      simp [Value.ownBlock] at h1 h2
      omega
  case round =>
    obtain ⟨k, t, hk, ht, rfl, rfl, hdv, hev, hap, hb⟩ := hrel
    have HDV := Lib.hid hdv
    have HEV := Lib.hid hev
    have HAP := Lib.hid hap
    have HB := Lib.hid hb
    have HWS := Lib.hid (wordsL_succ x u k)
    obtain ⟨⟨hl1, hl2⟩, hst⟩ := deS_all m p s hs _ (wordsL x u k) (wordsL_len x u k)
    have BS := Lib.hid hb.size
    obtain ⟨Ad, cd, ed⟩ := own_shape hdv
    obtain ⟨Ae, ce, ee⟩ := own_shape hev
    subst ed ee
    have HL1 := Lib.hid hl1
    have hl3 : (deS m p s (wordsL x u k)).1.length ≤ 200 := by omega
    have hl4 : (deS m p s (wordsL x u k)).2.1.length ≤ 200 := by omega
    clear hdv hev hap hb hl1 hl2
    by_cases hlt : k < n
    · have hle : (k + 1) * u ≤ n * u := Nat.mul_le_mul_right u hlt
      rw [Nat.add_mul, Nat.one_mul, HNU.out] at hle
      have htu : t + u ≤ x.size := by omega
      have HS := Lib.hid (deS_snoc m p s (wordsL x u k) (x.extract (k * u) (k * u + u)))
      have hXb := isB_extract x (k * u) (k * u + u) HX.out
      rw [ht] at HS HWS hXb
      have hq : (t : Int) / (u : Int) = (k : Int) := by
        rw [← ht, Int.natCast_mul, Int.mul_ediv_cancel _ (by omega)]
      have hkt : (k + 1) * u = t + u := by rw [Nat.add_mul, ht]; omega
      have HQ := Lib.hid hq
      have HKT := Lib.hid hkt
      have HXS : Hid ((x.extract t (t + u)).size ≤ 4000000) := by show _ ≤ _; rw [size_extract' _ _ _ htu]; omega
      clear hle hq hkt
      generalize hT : (deS m p s (wordsL x u k)).2.2 = T at *
      have HNX := Lib.hid (fun W => l03Next_any T (x.extract t (t + u)) W hXb)
      have HLI := Lib.hid (fun W h => l03List_st W b d u vm vp T hst h)
      have HLJ := Lib.hid (fun W h => l03List_st W b d u vm vp (-T) (by omega) h)
      have CI := Lib.hid (fun W (h : RdS W (if T < 0 then vm else vp) (lst m p T)) => l03Index_any W _ (lst m p T) (x.extract t (t + u)) h)
      have CJ := Lib.hid (fun W (h : RdS W (if -T < 0 then vm else vp) (lst m p (-T))) => l03Index_any W _ (lst m p (-T)) (x.extract t (t + u)) h)
      have HTT := Lib.hid hT
      clear hT hXb
      have hw1 : deW m p T (x.extract t (t + u)) = if fnd (lst m p T) (x.extract t (t + u)) 0 < 0 then (fnd (lst m p (-T)) (x.extract t (t + u)) 0, true) else (fnd (lst m p T) (x.extract t (t + u)) 0, false) := rfl
      have RV := Lib.hid (rds_lst HM.out HP.out T)
      have RW := Lib.hid (rds_lst HM.out HP.out (-T))
      generalize (if T < 0 then vm else vp) = LV at *
      generalize (if -T < 0 then vm else vp) = LW at *
      generalize fnd (lst m p T) (x.extract t (t + u)) 0 = F at *
      generalize fnd (lst m p (-T)) (x.extract t (t + u)) 0 = F2 at *
      have hT0 : -1 ≤ T ∧ T ≤ 1 := by omega
      obtain ⟨T0, T1⟩ := hT0
      have HST := Lib.hid hst
      clear hst
      by_cases hF : F < 0
      · rw [if_pos hF] at hw1
        have HW1 := Lib.hid hw1
        clear hw1
        go_wp2_with fail
        refine (HLI.out _ (HC.out.keep HB.out)).mono ?_; rintro e w' ⟨rfl, rfl⟩
        go_wp2_with fail
        refine (CI.out _ (RV.out.keep HB.out)).mono ?_; rintro e w' ⟨rfl, rfl⟩
        have hq := HQ.out
        go_wp2_with (at_builtin; refine wpList_append_lies _ rfl _ _ 22 rfl w.heap.size 2 i0 (.int .i64 0) 1 8 Try.underlying22 hi hz0 hz1 hz2 rfl (by decide) _ _ _ rfl (World.ownsRow.alloc HEV.out _) ⟨wr.heap.size, 0, none⟩ 1 1 [.int .i64 k] rfl rfl ?c1 ?c2 (by decide) ?c3 ?c4 ?c5 (wr.heap.size + 1) (by simp) ?_)
        case c1 => exact c1_b _ _ _
        case c2 => intro u hu; simp at hu; subst hu; rfl
        case c3 => unfold maxLen; omega
        case c4 => omega
        case c5 => have := BS.out; simp; omega
        intro g cap w1 hown' hgrow hat hlt1
        have hev1 := own_snocI hown'
        have hap1 := app_apart (n := (deS m p s (wordsL x u k)).2.1.length + 1) (cap := cap) HDV.out HAP.out hat (Nat.le_succ _)
        have HDV1 := Lib.hid (app_other HDV.out HAP.out hgrow)
        have HB1 := Lib.hid (below_appN HB.out BS.out HEV.out hgrow)
        have HEV1 := Lib.hid hev1
        have HAP1 := Lib.hid hap1
        clear hown' hgrow hat hlt1 hev1 hap1 hq HDV HAP HB HEV BS
        have hlt2 : b < w1.heap.size := by have := HB1.out.size; omega
        have BS1 := Lib.hid HB1.out.size
        go_wp2_with fail
        refine (HLJ.out _ (HC.out.keep HB1.out)).mono ?_; rintro e w' ⟨rfl, rfl⟩
        go_wp2_with fail
        refine (CJ.out _ (RW.out.keep HB1.out)).mono ?_; rintro e w' ⟨rfl, rfl⟩
        go_wp2_with (at_builtin; refine wpList_append_lies _ rfl _ _ 22 rfl w.heap.size 2 i0 (.int .i64 0) 1 8 Try.underlying22 hi hz0 hz1 hz2 rfl (by decide) _ _ _ rfl (World.ownsRow.alloc HDV1.out _) ⟨w1.heap.size, 0, none⟩ 1 1 [.int .i64 F2] rfl rfl ?c1 ?c2 (by decide) ?c3 ?c4 ?c5 (w1.heap.size + 1) (by simp) ?_)
        case c1 => exact c1_b _ _ _
        case c2 => intro u hu; simp at hu; subst hu; rfl
        case c3 => unfold maxLen; omega
        case c4 => omega
        case c5 => have := BS1.out; simp; omega
        intro g2 cap2 w2 hown2 hgrow2 hat2 hlt3
        have HDV2 := Lib.hid (own_snocI hown2)
        have HAP2 := Lib.hid (app_apart (n := (deS m p s (wordsL x u k)).1.length + 1) (cap := cap2) HEV1.out HAP1.out.symm hat2 (Nat.le_succ _)).symm
        have HEV2 := Lib.hid (app_other HEV1.out HAP1.out.symm hgrow2)
        have HB2 := Lib.hid (below_appN HB1.out BS1.out HDV1.out hgrow2)
        clear hown2 hgrow2 hat2 hlt3 HDV1 HAP1 HB1 HEV1 BS1
        go_wp2_with fail
        refine (HNX.out _).mono ?_; rintro e w' ⟨rfl, rfl⟩
        go_wp2_with fail
        go_roundw
        case rel =>
          have hse : deS m p s (wordsL x u (k + 1)) = ((deS m p s (wordsL x u k)).1 ++ [F2], (deS m p s (wordsL x u k)).2.1 ++ [(k : Int)], nxS T (x.extract t (t + u))) := by
            rw [HWS.out, HS.out]; unfold deStep; rw [HTT.out, HW1.out, HL1.out]; rfl
          exact ⟨k + 1, t + u, by omega, HKT.out, by go_num, by rw [hse], by rw [hse]; exact HDV2.out, by rw [hse]; exact HEV2.out, HAP2.out, HB2.out⟩
        case measure => simp [intOf]; omega
      · rw [if_neg hF] at hw1
        have HW1 := Lib.hid hw1
        clear hw1
        go_wp2_with fail
        refine (HLI.out _ (HC.out.keep HB.out)).mono ?_; rintro e w' ⟨rfl, rfl⟩
        go_wp2_with fail
        refine (CI.out _ (RV.out.keep HB.out)).mono ?_; rintro e w' ⟨rfl, rfl⟩
        go_wp2_with (at_builtin; refine wpList_append_lies _ rfl _ _ 22 rfl w.heap.size 2 i0 (.int .i64 0) 1 8 Try.underlying22 hi hz0 hz1 hz2 rfl (by decide) _ _ _ rfl (World.ownsRow.alloc HDV.out _) ⟨wr.heap.size, 0, none⟩ 1 1 [.int .i64 F] rfl rfl ?c1 ?c2 (by decide) ?c3 ?c4 ?c5 (wr.heap.size + 1) (by simp) ?_)
        case c1 => exact c1_b _ _ _
        case c2 => intro u hu; simp at hu; subst hu; rfl
        case c3 => unfold maxLen; omega
        case c4 => omega
        case c5 => have := BS.out; simp; omega
        intro g2 cap2 w2 hown2 hgrow2 hat2 hlt3
        have HDV2 := Lib.hid (own_snocI hown2)
        have HAP2 := Lib.hid (app_apart (n := (deS m p s (wordsL x u k)).1.length + 1) (cap := cap2) HEV.out HAP.out.symm hat2 (Nat.le_succ _)).symm
        have HEV2 := Lib.hid (app_other HEV.out HAP.out.symm hgrow2)
        have HB2 := Lib.hid (below_appN HB.out BS.out HDV.out hgrow2)
        clear hown2 hgrow2 hat2 hlt3 HDV HAP HB HEV BS
        go_wp2_with fail
        refine (HNX.out _).mono ?_; rintro e w' ⟨rfl, rfl⟩
        go_wp2_with fail
        go_roundw
        case rel =>
          have hse : deS m p s (wordsL x u (k + 1)) = ((deS m p s (wordsL x u k)).1 ++ [F], (deS m p s (wordsL x u k)).2.1, nxS T (x.extract t (t + u))) := by
            rw [HWS.out, HS.out]; unfold deStep; rw [HTT.out, HW1.out]; rfl
          exact ⟨k + 1, t + u, by omega, HKT.out, by go_num, by rw [hse], by rw [hse]; exact HDV2.out, by rw [hse]; exact HEV2.out, HAP2.out, HB2.out⟩
        case measure => simp [intOf]; omega
    · obtain rfl : k = n := by omega
      have htx : ¬ (t : Int) < (x.size : Int) := by have := HNU.out; omega
      go_wp2_with fail
      go_ret3
      exact ⟨_, _, rfl, HDV.out, HEV.out, HB.out⟩


end Go.Proofs.Ytjmaapbodacggaa
