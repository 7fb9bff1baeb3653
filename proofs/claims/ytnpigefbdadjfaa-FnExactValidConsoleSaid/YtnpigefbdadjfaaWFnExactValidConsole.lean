/- The walk of the law FnExactValidConsole. -/
import Derived.Test.YtnpigefbdadjfaaVcs
import Derived.Test.YtnpigefbdadjfaaVci
import Derived.Test.YtnpigefbdadjfaaCnl
namespace Go.Proofs.Ytnpigefbdadjfaa
open Go Go.RowKit
set_option linter.unusedVariables false

set_option maxHeartbeats 1600000 in
set_option maxRecDepth 100000 in
theorem law_FnExactValidConsole (v0 u0 : Value) (m0 p0 : List ByteArray) (sm : ∀ s ∈ m0, s.size ≤ maxLen) (sp : ∀ s ∈ p0, s.size ≤ maxLen) (w : World) (rm : RdS w v0 m0) (rp : RdS w u0 p0) :
    Calls Try.prog 5 #[.agg #[v0, u0]] w fun e w' => e = .returned (.bool true) ∧ Below w.heap.size w w' := by
  obtain ⟨A1, n1, c1, rfl⟩ := rds_sh2 rm
  obtain ⟨A2, n2, c2, rfl⟩ := rds_sh2 rp
  have HB0 : Hid (Below w.heap.size w (w.alloc (.cells #[.slice A1 n1 c1, .slice A2 n2 c2] 46))) := (Below.refl _ _).alloc (Nat.le_refl _) _
  have HM := Lib.hid (rm.keep HB0.out)
  have HP := Lib.hid (rp.keep HB0.out)
  have HO := Lib.hid (Bk.new w (cnV (.slice A1 n1 c1) (.slice A2 n2 c2)) 46 w.heap.size rfl)
  have HZ := Lib.hid (fun W hm hp => szConsole_any W (.slice A1 n1 c1) (.slice A2 n2 c2) m0 p0 hm hp sm sp)
  have hok := @szCn_ok m0 p0
  by_cases hz0 : szCn m0 p0 < 0
  · clear sm sp rm rp hok
    generalize szCn m0 p0 = z at *
    go_enter Try.func5, Try.ntmps5
    go_wp2_with fail
    refine (HZ.out _ HM.out HP.out).mono ?_; rintro e u1 ⟨rfl, hb1⟩
    have B1 := Lib.hid (HB0.out.trans (hb1.mono HB0.out.size))
    clear hb1
    go_wp2_with fail
    go_ret
    exact ⟨rfl, B1.out⟩
  · have HL := Lib.hid (hok hz0)
    have hgm : ∀ s ∈ m0, s.size ≤ maxLen := fun s hs => by have := HL.out.1.2 s hs; unfold maxLen; omega
    have hgp : ∀ s ∈ p0, s.size ≤ maxLen := fun s hs => by have := HL.out.2.2 s hs; unfold maxLen; omega
    have hlm : m0.length ≤ 4000000 := by have := HL.out.1.1; omega
    have hlp : p0.length ≤ 4000000 := by have := HL.out.2.1; omega
    clear hok rm rp sm sp
    generalize szCn m0 p0 = z at *
    have HS := Lib.hid (fun (W : World) (vm vp : Value) (hm : RdS W vm m0) (hp : RdS W vp p0) => validC_spec W vm vp m0 p0 hm hp hgm hgp)
    have HI := Lib.hid (fun (W : World) (vm vp : Value) (hm : RdS W vm m0) (hp : RdS W vp p0) => validC_impl W vm vp m0 p0 hm hp hgm hgp)
    have HT := Lib.hid (fun (W : World) (vm vp : Value) (hm : RdS W vm m0) (hp : RdS W vp p0) => toConsole_any W vm vp m0 p0 hm hp hlm hlp)
    clear hgm hgp hlm hlp
    generalize hv0 : vcB m0 p0 = y0 at HS HI
    clear hv0
    cases y0
    all_goals
      go_enter Try.func5, Try.ntmps5
      go_wp2_with fail
      refine (HZ.out _ HM.out HP.out).mono ?_; rintro e u1 ⟨rfl, hb1⟩
      have B1 := Lib.hid (HB0.out.trans (hb1.mono HB0.out.size))
      have M_1 := Lib.hid (HM.out.keep hb1)
      have P_1 := Lib.hid (HP.out.keep hb1)
      have O_1 := Lib.hid (HO.out.keep hb1)
      clear hb1 HB0 HM HP HO
      obtain ⟨qa0, qa1⟩ := cn_all O_1.out
      go_wp2_with fail
      refine (HT.out _ _ _ M_1.out P_1.out).mono ?_; rintro e u2 ⟨ym, yp, rfl, hym, hyp, hb2⟩
      have B2 := Lib.hid (B1.out.trans (hb2.mono B1.out.size))
      have M_2 := Lib.hid (M_1.out.keep hb2)
      have P_2 := Lib.hid (P_1.out.keep hb2)
      have O_2 := Lib.hid (O_1.out.keep hb2)
      have Ym_2 := Lib.hid hym
      have Yp_2 := Lib.hid hyp
      clear hb2 B1 M_1 P_1 O_1 hym hyp
      clear qa0 qa1
      go_wp2_with fail
      refine (HS.out _ _ _ Ym_2.out Yp_2.out).mono ?_; rintro e u3 ⟨rfl, hb3⟩
      have B3 := Lib.hid (B2.out.trans (hb3.mono B2.out.size))
      have M_3 := Lib.hid (M_2.out.keep hb3)
      have P_3 := Lib.hid (P_2.out.keep hb3)
      have O_3 := Lib.hid (O_2.out.keep hb3)
      have Ym_3 := Lib.hid (Ym_2.out.keep hb3)
      have Yp_3 := Lib.hid (Yp_2.out.keep hb3)
      clear hb3 B2 M_2 P_2 O_2 Ym_2 Yp_2
      obtain ⟨qa0, qa1⟩ := cn_all O_3.out
      clear Ym_3 Yp_3
      go_wp2_with fail
      refine (HT.out _ _ _ M_3.out P_3.out).mono ?_; rintro e u4 ⟨xm, xp, rfl, hxm, hxp, hb4⟩
      have B4 := Lib.hid (B3.out.trans (hb4.mono B3.out.size))
      have M_4 := Lib.hid (M_3.out.keep hb4)
      have P_4 := Lib.hid (P_3.out.keep hb4)
      have O_4 := Lib.hid (O_3.out.keep hb4)
      have Xm_4 := Lib.hid hxm
      have Xp_4 := Lib.hid hxp
      clear hb4 B3 M_3 P_3 O_3 hxm hxp
      clear qa0 qa1
      obtain ⟨A3, n3, c3, rfl⟩ := rds_sh2 Xm_4.out
      obtain ⟨A4, n4, c4, rfl⟩ := rds_sh2 Xp_4.out
      have kb := (Below.refl u4.heap.size u4).alloc (Nat.le_refl _) (.cells #[.slice A3 n3 c3, .slice A4 n4 c4] 49)
      have bx := Bk.new u4 (cnV (.slice A3 n3 c3) (.slice A4 n4 c4)) 49 u4.heap.size rfl
      have BB := Lib.hid (B4.out.trans (kb.mono B4.out.size))
      have M_b := Lib.hid (M_4.out.keep kb)
      have P_b := Lib.hid (P_4.out.keep kb)
      have O_b := Lib.hid (O_4.out.keep kb)
      have Xm_b := Lib.hid (Xm_4.out.keep kb)
      have Xp_b := Lib.hid (Xp_4.out.keep kb)
      have X_b := Lib.hid bx
      clear kb bx B4 M_4 P_4 O_4 Xm_4 Xp_4
      obtain ⟨qb0, qb1⟩ := cn_all X_b.out
      go_wp2_with fail
      refine (HI.out _ _ _ Xm_b.out Xp_b.out).mono ?_; rintro e u5 ⟨rfl, hb5⟩
      have B5 := Lib.hid (BB.out.trans (hb5.mono BB.out.size))
      have M_5 := Lib.hid (M_b.out.keep hb5)
      have P_5 := Lib.hid (P_b.out.keep hb5)
      have O_5 := Lib.hid (O_b.out.keep hb5)
      have Xm_5 := Lib.hid (Xm_b.out.keep hb5)
      have Xp_5 := Lib.hid (Xp_b.out.keep hb5)
      have X_5 := Lib.hid (X_b.out.keep hb5)
      clear hb5 BB M_b P_b O_b Xm_b Xp_b X_b
      clear qb0 qb1
      go_wp2_with fail
      have t0 := KC.drew ⟨O_5.out, X_5.out⟩
      have M_6 := Lib.hid (M_5.out.keep (Below.refl _ _).drew)
      have P_6 := Lib.hid (P_5.out.keep (Below.refl _ _).drew)
      have Xm_6 := Lib.hid (Xm_5.out.keep (Below.refl _ _).drew)
      have Xp_6 := Lib.hid (Xp_5.out.keep (Below.refl _ _).drew)
      have B6 := Lib.hid (B5.out.drew)
      obtain ⟨qa0, qa1, qb0, qb1⟩ := KC.all t0
      go_region_held3 (fun w' => w'.cell? ⟨w.heap.size, 0, none⟩ = some (.slice A1 n1 c1) ∧ w'.cell? ⟨w.heap.size, 1, none⟩ = some (.slice A2 n2 c2) ∧ w'.cell? ⟨u4.heap.size, 0, none⟩ = some (.slice A3 n3 c3) ∧ w'.cell? ⟨u4.heap.size, 1, none⟩ = some (.slice A4 n4 c4)) ((first | with_reducible exact KC.all t8 | with_reducible exact KC.all t7 | with_reducible exact KC.all t0 | fail))
        (first
          | (go_at_call 29; refine (HT.out _ _ _ M_6.out P_6.out).mono ?_; rintro e u7 ⟨zm, zp, rfl, hzm, hzp, hb7⟩; have t7 := KC.keep t0 hb7; have Zm := Lib.hid hzm; have Zp := Lib.hid hzp; have Xm_7 := Lib.hid (Xm_6.out.keep hb7); have Xp_7 := Lib.hid (Xp_6.out.keep hb7); have B7 := Lib.hid (B6.out.trans (hb7.mono B6.out.size)); obtain ⟨qa0, qa1, qb0, qb1⟩ := KC.all t7; clear hb7 hzm hzp)
          | (go_at_call 31; refine (eqConsole_rd _ _ _ _ _ m0 p0 Xm_7.out Xp_7.out Zm.out Zp.out).mono ?_; rintro e u8 ⟨rfl, hb8⟩; have t8 := KC.keep t7 hb8; have B8 := Lib.hid (B7.out.trans (hb8.mono B7.out.size)); obtain ⟨qa0, qa1, qb0, qb1⟩ := KC.all t8; clear hb8)
          | fail)
      all_goals go_wp2_with fail
      all_goals go_ret
      all_goals exact ⟨rfl, B8.out⟩
end Go.Proofs.Ytnpigefbdadjfaa
