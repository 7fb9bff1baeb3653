/- The walk of the law FnExactFlipEffect. -/
import Derived.Test.YtjmaapbodacggaaFlS
import Derived.Test.YtjmaapbodacggaaFlI
import Derived.Test.YtjmaapbodacggaaBl
namespace Go.Proofs.Ytjmaapbodacggaa
open Go Go.RowKit
set_option linter.unusedVariables false

set_option maxHeartbeats 1600000 in
set_option maxRecDepth 100000 in
theorem law_FnExactFlipEffect (d0 e0 : Int) (v0 u0 : Value) (m0 p0 : List ByteArray) (sm : ∀ s ∈ m0, s.size ≤ maxLen) (sp : ∀ s ∈ p0, s.size ≤ maxLen) (a1 : Int) (w1 : (Lit.int .i64 a1).wf = true) (v2 : Value) (l2 : List Int) (k2 : ∀ n ∈ l2, (Lit.int .i64 n).wf = true) (a3 : Int) (w3 : (Lit.int .i64 a3).wf = true) (w : World) (rm : RdS w v0 m0) (rp : RdS w u0 p0) (r2 : Rd w v2 l2) :
    Calls Try.prog 5 #[.agg #[.int .i64 d0, .int .i64 e0, v0, u0], .int .i64 a1, v2, .int .i64 a3] w fun e w' => e = .returned (.bool true) ∧ Below w.heap.size w w' := by
  obtain ⟨A1, n1, c1, rfl⟩ := rds_sh2 rm
  obtain ⟨A2, n2, c2, rfl⟩ := rds_sh2 rp
  have HB0 : Hid (Below w.heap.size w (w.alloc (.cells #[.int .i64 d0, .int .i64 e0, .slice A1 n1 c1, .slice A2 n2 c2] 32))) := (Below.refl _ _).alloc (Nat.le_refl _) _
  have HM := Lib.hid (rm.keep HB0.out)
  have HP := Lib.hid (rp.keep HB0.out)
  have HO := Lib.hid (Bk.new w (bcV d0 e0 (.slice A1 n1 c1) (.slice A2 n2 c2)) 32 w.heap.size rfl)
  have t2 : l2.length ≤ 9223372036854775807 := by have := r2.len; unfold maxLen at this; exact this
  have q2 := r2
  obtain ⟨B2, b2, cc2, rfl, hn2, -, -, -⟩ := q2
  rw [hn2] at t2
  have N2 := Lib.hid hn2
  clear hn2
  by_cases h2 : b2 ≤ 1048576
  rotate_left
  · clear sm sp rm rp w1 k2 r2 w3
    go_enter Try.func5, Try.ntmps5
    go_wp2_with fail
    go_ret
    exact ⟨rfl, HB0.out⟩
  have g2 : l2.length ≤ 1048576 := by rw [N2.out]; exact h2
  have R2_0 := Lib.hid (r2.keep HB0.out)
  have HZ := Lib.hid (fun W hm hp => szBlockCode_any W d0 e0 (.slice A1 n1 c1) (.slice A2 n2 c2) m0 p0 hm hp sm sp)
  have hok := @szBC_ok m0 p0
  by_cases hz0 : szBC m0 p0 < 0
  · clear sm sp rm rp hok w1 k2 r2 w3
    generalize szBC m0 p0 = z at *
    go_enter Try.func5, Try.ntmps5
    go_wp2_with fail
    refine (HZ.out _ HM.out HP.out).mono ?_; rintro e u1 ⟨rfl, hb1⟩
    have B1 := Lib.hid (HB0.out.trans (hb1.mono HB0.out.size))
    clear hb1
    go_wp2_with fail
    go_ret
    exact ⟨rfl, B1.out⟩
  · have HL := Lib.hid (hok hz0)
    have hgm : ∀ s ∈ m0, s.size ≤ 4000000 := fun s hs => by have := HL.out.1.2 s hs; omega
    have hgp : ∀ s ∈ p0, s.size ≤ 4000000 := fun s hs => by have := HL.out.2.2 s hs; omega
    have hlm : m0.length ≤ 4000000 := by have := HL.out.1.1; omega
    have hlp : p0.length ≤ 4000000 := by have := HL.out.2.1; omega
    clear hok rm rp sm sp
    generalize szBC m0 p0 = z at *
    have HS := Lib.hid (fun (W : World) (vm vp : Value) (hm : RdS W vm m0) (hp : RdS W vp p0) (x2 : Value) (r2 : Rd W x2 l2) => flipEffect_spec W d0 e0 vm vp x2 m0 p0 a1 l2 a3 hm hp r2 hgm hgp (i64_bdd w3).1 (i64_bdd w3).2)
    have HI := Lib.hid (fun (W : World) (vm vp : Value) (hm : RdS W vm m0) (hp : RdS W vp p0) (x2 : Value) (r2 : Rd W x2 l2) => flipEffect_impl W d0 e0 vm vp x2 m0 p0 a1 l2 a3 hm hp r2 hgm hgp hlm hlp (i64_bdd w3).1 (i64_bdd w3).2)
    have HT := Lib.hid (fun (W : World) (vm vp : Value) (hm : RdS W vm m0) (hp : RdS W vp p0) => toBlockCode_any W d0 e0 vm vp m0 p0 hm hp hlm hlp)
    clear hgm hgp hlm hlp w1 k2 r2 w3
    generalize hv0 : feN d0 e0 m0 p0 a1 l2 a3 = y0 at HS HI
    clear hv0
    generalize hv1 : feW d0 e0 m0 p0 a1 l2 a3 = y1 at HS HI
    clear hv1
    generalize hv2 : feOk d0 e0 m0 p0 a1 l2 a3 = y2 at HS HI
    clear hv2
    cases y2
    all_goals
      have G2 := Lib.hid g2
      clear g2
      have ee0 : (y0 != y0) = false := by simp
      have ee1 : (y1 != y1) = false := by simp
      go_enter Try.func5, Try.ntmps5
      go_wp2_with fail
      refine (HZ.out _ HM.out HP.out).mono ?_; rintro e u1 ⟨rfl, hb1⟩
      have B1 := Lib.hid (HB0.out.trans (hb1.mono HB0.out.size))
      have M_1 := Lib.hid (HM.out.keep hb1)
      have P_1 := Lib.hid (HP.out.keep hb1)
      have O_1 := Lib.hid (HO.out.keep hb1)
      have R2_1 := Lib.hid (R2_0.out.keep hb1)
      clear hb1 HB0 HM HP HO R2_0
      obtain ⟨qa0, qa1, qa2, qa3⟩ := bc_all O_1.out
      go_wp2_with fail
      refine (HT.out _ _ _ M_1.out P_1.out).mono ?_; rintro e u2 ⟨ym, yp, rfl, hym, hyp, hb2⟩
      have B2 := Lib.hid (B1.out.trans (hb2.mono B1.out.size))
      have M_2 := Lib.hid (M_1.out.keep hb2)
      have P_2 := Lib.hid (P_1.out.keep hb2)
      have O_2 := Lib.hid (O_1.out.keep hb2)
      have R2_2 := Lib.hid (R2_1.out.keep hb2)
      have Ym_2 := Lib.hid hym
      have Yp_2 := Lib.hid hyp
      clear hb2 B1 M_1 P_1 O_1 R2_1 hym hyp
      go_wp2_with fail
      refine (toInt64S_any _ _ l2 R2_2.out (by have := G2.out; omega)).mono ?_; rintro e u3 ⟨yy2, rfl, hy2, hb3⟩
      have B3 := Lib.hid (B2.out.trans (hb3.mono B2.out.size))
      have M_3 := Lib.hid (M_2.out.keep hb3)
      have P_3 := Lib.hid (P_2.out.keep hb3)
      have O_3 := Lib.hid (O_2.out.keep hb3)
      have R2_3 := Lib.hid (R2_2.out.keep hb3)
      have Ym_3 := Lib.hid (Ym_2.out.keep hb3)
      have Yp_3 := Lib.hid (Yp_2.out.keep hb3)
      have Y2_3 := Lib.hid hy2.rd
      clear hb3 B2 M_2 P_2 O_2 R2_2 Ym_2 Yp_2 hy2
      clear qa0 qa1 qa2 qa3
      go_wp2_with fail
      refine (HS.out _ _ _ Ym_3.out Yp_3.out _ Y2_3.out).mono ?_; rintro e u4 ⟨rfl, hb4⟩
      have B4 := Lib.hid (B3.out.trans (hb4.mono B3.out.size))
      have M_4 := Lib.hid (M_3.out.keep hb4)
      have P_4 := Lib.hid (P_3.out.keep hb4)
      have O_4 := Lib.hid (O_3.out.keep hb4)
      have R2_4 := Lib.hid (R2_3.out.keep hb4)
      have Ym_4 := Lib.hid (Ym_3.out.keep hb4)
      have Yp_4 := Lib.hid (Yp_3.out.keep hb4)
      have Y2_4 := Lib.hid (Y2_3.out.keep hb4)
      clear hb4 B3 M_3 P_3 O_3 R2_3 Ym_3 Yp_3 Y2_3
      obtain ⟨qa0, qa1, qa2, qa3⟩ := bc_all O_4.out
      clear Ym_4 Yp_4 Y2_4
      go_wp2_with fail
      refine (HT.out _ _ _ M_4.out P_4.out).mono ?_; rintro e u5 ⟨xm, xp, rfl, hxm, hxp, hb5⟩
      have B5 := Lib.hid (B4.out.trans (hb5.mono B4.out.size))
      have M_5 := Lib.hid (M_4.out.keep hb5)
      have P_5 := Lib.hid (P_4.out.keep hb5)
      have O_5 := Lib.hid (O_4.out.keep hb5)
      have R2_5 := Lib.hid (R2_4.out.keep hb5)
      have Xm_5 := Lib.hid hxm
      have Xp_5 := Lib.hid hxp
      clear hb5 B4 M_4 P_4 O_4 R2_4 hxm hxp
      clear qa0 qa1 qa2 qa3
      obtain ⟨A3, n3, c3, rfl⟩ := rds_sh2 Xm_5.out
      obtain ⟨A4, n4, c4, rfl⟩ := rds_sh2 Xp_5.out
      have kb := (Below.refl u5.heap.size u5).alloc (Nat.le_refl _) (.cells #[.int .i64 d0, .int .i64 e0, .slice A3 n3 c3, .slice A4 n4 c4] 36)
      have bx := Bk.new u5 (bcV d0 e0 (.slice A3 n3 c3) (.slice A4 n4 c4)) 36 u5.heap.size rfl
      have BB := Lib.hid (B5.out.trans (kb.mono B5.out.size))
      have M_b := Lib.hid (M_5.out.keep kb)
      have P_b := Lib.hid (P_5.out.keep kb)
      have O_b := Lib.hid (O_5.out.keep kb)
      have R2_b := Lib.hid (R2_5.out.keep kb)
      have Xm_b := Lib.hid (Xm_5.out.keep kb)
      have Xp_b := Lib.hid (Xp_5.out.keep kb)
      have X_b := Lib.hid bx
      clear kb bx B5 M_5 P_5 O_5 R2_5 Xm_5 Xp_5
      go_wp2_with fail
      refine (toInt64S_any _ _ l2 R2_b.out (by have := G2.out; omega)).mono ?_; rintro e u6 ⟨xx2, rfl, hx2, hb6⟩
      have B6 := Lib.hid (BB.out.trans (hb6.mono BB.out.size))
      have M_6 := Lib.hid (M_b.out.keep hb6)
      have P_6 := Lib.hid (P_b.out.keep hb6)
      have O_6 := Lib.hid (O_b.out.keep hb6)
      have R2_6 := Lib.hid (R2_b.out.keep hb6)
      have Xm_6 := Lib.hid (Xm_b.out.keep hb6)
      have Xp_6 := Lib.hid (Xp_b.out.keep hb6)
      have X_6 := Lib.hid (X_b.out.keep hb6)
      have Z2_6 := Lib.hid hx2.rd
      clear hb6 BB M_b P_b O_b R2_b Xm_b Xp_b X_b hx2
      obtain ⟨qb0, qb1, qb2, qb3⟩ := bc_all X_6.out
      go_wp2_with fail
      refine (HI.out _ _ _ Xm_6.out Xp_6.out _ Z2_6.out).mono ?_; rintro e u7 ⟨rfl, hb7⟩
      have B7 := Lib.hid (B6.out.trans (hb7.mono B6.out.size))
      have M_7 := Lib.hid (M_6.out.keep hb7)
      have P_7 := Lib.hid (P_6.out.keep hb7)
      have O_7 := Lib.hid (O_6.out.keep hb7)
      have R2_7 := Lib.hid (R2_6.out.keep hb7)
      have Xm_7 := Lib.hid (Xm_6.out.keep hb7)
      have Xp_7 := Lib.hid (Xp_6.out.keep hb7)
      have X_7 := Lib.hid (X_6.out.keep hb7)
      have Z2_7 := Lib.hid (Z2_6.out.keep hb7)
      clear hb7 B6 M_6 P_6 O_6 R2_6 Xm_6 Xp_6 X_6 Z2_6
      clear qb0 qb1 qb2 qb3
      go_wp2_with fail
      have t0 := KB.drew ⟨O_7.out, X_7.out⟩
      have M_6 := Lib.hid (M_7.out.keep (Below.refl _ _).drew)
      have P_6 := Lib.hid (P_7.out.keep (Below.refl _ _).drew)
      have Xm_6 := Lib.hid (Xm_7.out.keep (Below.refl _ _).drew)
      have Xp_6 := Lib.hid (Xp_7.out.keep (Below.refl _ _).drew)
      have R2_6 := Lib.hid (R2_7.out.keep (Below.refl _ _).drew)
      have Z2_6 := Lib.hid (Z2_7.out.keep (Below.refl _ _).drew)
      have B6 := Lib.hid (B7.out.drew)
      obtain ⟨qa0, qa1, qa2, qa3, qb0, qb1, qb2, qb3⟩ := KB.all t0
      go_region_held3 (fun w' => w'.cell? ⟨w.heap.size, 0, none⟩ = some (.int .i64 d0) ∧ w'.cell? ⟨w.heap.size, 1, none⟩ = some (.int .i64 e0) ∧ w'.cell? ⟨w.heap.size, 2, none⟩ = some (.slice A1 n1 c1) ∧ w'.cell? ⟨w.heap.size, 3, none⟩ = some (.slice A2 n2 c2) ∧ w'.cell? ⟨u5.heap.size, 0, none⟩ = some (.int .i64 d0) ∧ w'.cell? ⟨u5.heap.size, 1, none⟩ = some (.int .i64 e0) ∧ w'.cell? ⟨u5.heap.size, 2, none⟩ = some (.slice A3 n3 c3) ∧ w'.cell? ⟨u5.heap.size, 3, none⟩ = some (.slice A4 n4 c4)) ((first | with_reducible exact KB.all t8 | with_reducible exact KB.all t7 | with_reducible exact KB.all t0 | fail))
        (first
          | (go_at_call 24; refine (HT.out _ _ _ M_6.out P_6.out).mono ?_; rintro e u7 ⟨zm, zp, rfl, hzm, hzp, hb7⟩; have t7 := KB.keep t0 hb7; have Zm := Lib.hid hzm; have Zp := Lib.hid hzp; have Xm_7 := Lib.hid (Xm_6.out.keep hb7); have Xp_7 := Lib.hid (Xp_6.out.keep hb7); have R2_7 := Lib.hid (R2_6.out.keep hb7); have Z2_7 := Lib.hid (Z2_6.out.keep hb7); have B7 := Lib.hid (B6.out.trans (hb7.mono B6.out.size)); obtain ⟨qa0, qa1, qa2, qa3, qb0, qb1, qb2, qb3⟩ := KB.all t7; clear hb7 hzm hzp)
          | (go_at_call 27; refine (eqBlockCode_rd _ d0 e0 _ _ _ _ m0 p0 Xm_7.out Xp_7.out Zm.out Zp.out).mono ?_; rintro e u8 ⟨rfl, hb8⟩; have t8 := KB.keep t7 hb8; have R2_8 := Lib.hid (R2_7.out.keep hb8); have Z2_8 := Lib.hid (Z2_7.out.keep hb8); have B8 := Lib.hid (B7.out.trans (hb8.mono B7.out.size)); obtain ⟨qa0, qa1, qa2, qa3, qb0, qb1, qb2, qb3⟩ := KB.all t8; clear hb8)
          | fail)
      all_goals go_wp2_with fail
      all_goals clear qa0 qa1 qa2 qa3 qb0 qb1 qb2 qb3
      all_goals (refine (toInt64S_any _ _ l2 R2_8.out (by have := G2.out; omega)).mono ?_; rintro e u9 ⟨zz, rfl, hzz, hb9⟩)
      all_goals have B9 := Lib.hid (B8.out.trans (hb9.mono B8.out.size))
      all_goals have Z9 := Lib.hid (Z2_8.out.keep hb9)
      all_goals have Y9 := Lib.hid hzz.rd
      all_goals clear hb9 hzz
      all_goals go_wp2_with fail
      all_goals (refine (eqInt64S_rd _ _ _ l2 Z9.out Y9.out).mono ?_; rintro e u10 ⟨rfl, q10, rfl⟩)
      all_goals have B10 := Lib.hid (below_drewN B9.out q10)
      all_goals go_wp2_with fail
      all_goals go_ret
      all_goals exact ⟨rfl, B10.out⟩
end Go.Proofs.Ytjmaapbodacggaa
