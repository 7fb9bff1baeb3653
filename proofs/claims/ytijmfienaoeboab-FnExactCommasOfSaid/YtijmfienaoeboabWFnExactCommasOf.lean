/- The walk of the law FnExactCommasOf. -/
import Derived.Test.YtijmfienaoeboabCoS2
import Derived.Test.YtijmfienaoeboabCoI2
import Derived.Test.YtijmfienaoeboabBl
import Derived.Test.YtijmfienaoeboabMb
import Derived.Test.YtijmfienaoeboabHd
namespace Go.Proofs.Ytijmfienaoeboab
open Go Go.RowKit
set_option linter.unusedVariables false

theorem i64_bdc {x : Int} (h : (Lit.int .i64 x).wf = true) : -9223372036854775808 ≤ x ∧ x ≤ 9223372036854775807 := by
  simp [Lit.wf, IntKind.min, IntKind.max, IntKind.signed, IntKind.bits] at h
  omega
theorem coV_small (d wd : Int) (m p : List ByteArray) (len : Int) : (coV d wd m p len).length ≤ 256 := by
  unfold coV
  split
  · rename_i h
    unfold coOk at h
    rw [Bool.and_eq_true] at h
    have h2 := of_decide_eq_true h.2
    obtain ⟨N, e1, -, -, e4⟩ := pow_num len.toNat (by omega)
    rw [e1]
    exact Nat.le_trans (coF_len _ _ _ _) e4
  · simp
theorem ownt_sh3 {w : World} {base : Nat} {v : Value} {l : List ByteArray} (h : OwnT w base v l) : ∃ A n c, v = .slice A n c := by
  obtain ⟨A, c, e⟩ := ownt_shape h
  exact ⟨A, _, c, e⟩
/-- A row of texts below a number. -/
structure TIn (w : World) (lo : Nat) (v : Value) (l : List ByteArray) : Prop where
  own : OwnT w lo v l
theorem TIn.keep {w w' : World} {lo : Nat} {v : Value} {l : List ByteArray} (h : TIn w lo v l) (hb : Below w.heap.size w w') : TIn w' lo v l := ⟨OwnT.keep h.own hb⟩
theorem TIn.drewN {w : World} {lo : Nat} {v : Value} {l : List ByteArray} (h : TIn w lo v l) (q : Nat) : TIn (w.drewN q) lo v l := ⟨h.own⟩
theorem OwnT.same {w w' : World} {lo : Nat} {v : Value} {l : List ByteArray} (h : OwnT w lo v l) (hk : ∀ k, v.ownBlock = some k → w'.heap[k]? = w.heap[k]?) : OwnT w' lo v l := by
  refine ⟨h.1, ?_⟩
  rcases h.2 with h' | ⟨g, cap, cur, rfl, h1, hg, h2, h3, h4, h5⟩
  · exact .inl h'
  · exact .inr ⟨g, cap, cur, rfl, h1, by rw [hk g (by simp [Value.ownBlock])]; exact hg, h2, h3, h4, h5⟩

set_option maxHeartbeats 3200000 in
set_option maxRecDepth 100000 in
theorem law_FnExactCommasOf (d0 e0 : Int) (v0 u0 : Value) (m0 p0 : List ByteArray) (sm : ∀ s ∈ m0, s.size ≤ maxLen) (sp : ∀ s ∈ p0, s.size ≤ maxLen) (a1 : Int) (w1 : (Lit.int .i64 a1).wf = true) (w : World) (mx : Int) (hmx : w.cell? ⟨0, 0, none⟩ = some (.int .i64 mx)) (rm : RdS w v0 m0) (rp : RdS w u0 p0) :
    Calls Try.prog 11 #[.agg #[.int .i64 d0, .int .i64 e0, v0, u0], .int .i64 a1] w fun e w' => e = .returned (.bool true) ∧ Below w.heap.size w w' := by
  obtain ⟨A1, n1, c1, rfl⟩ := rds_sh2 rm
  obtain ⟨A2, n2, c2, rfl⟩ := rds_sh2 rp
  obtain ⟨W0, hW0⟩ : ∃ W0, W0 = w.alloc (.cells #[.int .i64 d0, .int .i64 e0, .slice A1 n1 c1, .slice A2 n2 c2] 58) := ⟨_, rfl⟩
  have hb0 : Below w.heap.size w W0 := by rw [hW0]; exact (Below.refl _ _).alloc (Nat.le_refl _) _
  have ho0 : Bk W0 w.heap.size (bcV d0 e0 (.slice A1 n1 c1) (.slice A2 n2 c2)) := by rw [hW0]; exact Bk.new w (bcV d0 e0 (.slice A1 n1 c1) (.slice A2 n2 c2)) _ _ rfl
  have HW := Lib.hid hW0
  have HBB := Lib.hid hb0
  have HO0 := Lib.hid ho0
  have HM0 := Lib.hid (rm.keep hb0)
  have HP0 := Lib.hid (rp.keep hb0)
  have HB0 := Lib.hid (Below.refl W0.heap.size W0)
  clear hW0 hb0 ho0 rm rp
  have HMX : Hid (∀ W, Below w.heap.size w W → W.cell? ⟨0, 0, none⟩ = some (.int .i64 mx)) := by
    show ∀ W, Below w.heap.size w W → _
    exact fun W hb => (hb.cell (World.block_lt_of_cell? w _ hmx)).trans hmx
  clear hmx
  obtain ⟨la0, la1⟩ := i64_bdc w1
  clear w1
  have HZ := Lib.hid (fun W hm hp => szBlockCode_any W d0 e0 (.slice A1 n1 c1) (.slice A2 n2 c2) m0 p0 hm hp sm sp)
  have hok := @szBC_ok m0 p0
  by_cases hz0 : szBC m0 p0 < 0
  · clear sm sp hok
    generalize szBC m0 p0 = z at *
    go_enter Try.func11, Try.ntmps11
    go_wp2_with fail
    rw [← HW.out]
    obtain ⟨qa0, qa1, qa2, qa3⟩ := bc_all HO0.out
    go_wp2_with fail
    refine (HZ.out _ HM0.out HP0.out).mono ?_; rintro e u1 ⟨rfl, hb1⟩
    have B1 := Lib.hid (HBB.out.trans (hb1.mono HBB.out.size))
    clear hb1 qa0 qa1 qa2 qa3
    go_wp2_with fail
    go_ret
    exact ⟨rfl, B1.out⟩
  have HL := Lib.hid (hok hz0)
  have hgm : ∀ s ∈ m0, s.size ≤ 4000000 := fun s hs => by have := HL.out.1.2 s hs; omega
  have hgp : ∀ s ∈ p0, s.size ≤ 4000000 := fun s hs => by have := HL.out.2.2 s hs; omega
  have hlm : m0.length ≤ 4000000 := by have := HL.out.1.1; omega
  have hlp : p0.length ≤ 4000000 := by have := HL.out.2.1; omega
  clear hok sm sp
  generalize szBC m0 p0 = z at *
  have HS := Lib.hid (fun (W : World) (vm vp : Value) (hm : RdS W vm m0) (hp : RdS W vp p0) => commasOf_spec W d0 e0 a1 vm vp m0 p0 hm hp la0 la1 hgm hgp hlm hlp)
  have HI := Lib.hid (fun (W : World) (vm vp : Value) (hm : RdS W vm m0) (hp : RdS W vp p0) (h0 : W.cell? ⟨0, 0, none⟩ = some (.int .i64 mx)) => commasOf_impl W d0 e0 a1 vm vp m0 p0 mx hm hp la0 la1 h0 hgm hgp hlm hlp)
  have HT := Lib.hid (fun (W : World) (vm vp : Value) (hm : RdS W vm m0) (hp : RdS W vp p0) => toBlockCode_any W d0 e0 vm vp m0 p0 hm hp hlm hlp)
  have HT2 := Lib.hid (fun (W : World) (vm vp : Value) (hm : RdS W vm m0) (hp : RdS W vp p0) => toBlockCode_own W d0 e0 vm vp m0 p0 hm hp hlm hlp)
  have hl0 := coV_small d0 e0 m0 p0 a1
  clear hgm hgp hlm hlp la0 la1
  generalize coV d0 e0 m0 p0 a1 = y0 at *
  generalize coOk d0 e0 m0 p0 a1 = y1 at *
  cases y1
  all_goals
      have m1 : ¬ ((1 : Int) + (y0.length : Int) < 0) := by omega
      have m2 : ((1 : Int) + (y0.length : Int) != 1 + (y0.length : Int)) = false := by simp
      have m4 : ¬ (((1 + m0.length + p0.length : Nat) : Int) < 0) := by omega
      go_enter Try.func11, Try.ntmps11
      go_wp2_with fail
      rw [← HW.out]
      obtain ⟨qa0, qa1, qa2, qa3⟩ := bc_all (HO0.out.keep HB0.out)
      go_wp2_with fail
      refine (HZ.out _ HM0.out HP0.out).mono ?_; rintro e u1 ⟨rfl, hb1⟩
      have B1 := Lib.hid (HB0.out.trans (hb1.mono HB0.out.size))
      clear hb1
      clear qa0 qa1 qa2 qa3
      obtain ⟨qa0, qa1, qa2, qa3⟩ := bc_all (HO0.out.keep B1.out)
      go_wp2_with fail
      refine (HT.out _ _ _ (HM0.out.keep B1.out) (HP0.out.keep B1.out)).mono ?_; rintro e u2 ⟨ym, yp, rfl, hym, hyp, hb2⟩
      have B2 := Lib.hid (B1.out.trans (hb2.mono B1.out.size))
      have Ym_2 := Lib.hid (hym)
      have Yp_2 := Lib.hid (hyp)
      clear hb2
      clear hym hyp
      clear qa0 qa1 qa2 qa3
      go_wp2_with fail
      refine (HS.out _ _ _ Ym_2.out Yp_2.out).mono ?_; rintro e u3 ⟨sv0, rfl, hs0, hb3⟩
      have B3 := Lib.hid (B2.out.trans (hb3.mono B2.out.size))
      have BS := Lib.hid (fun k hk => (World.ownsRow.lt hs0 k hk).2)
      have S0_3 := Lib.hid hs0
      clear hb3 hs0 Ym_2 Yp_2
      obtain ⟨qa0, qa1, qa2, qa3⟩ := bc_all (HO0.out.keep B3.out)
      go_wp2_with fail
      refine (HT2.out _ _ _ (HM0.out.keep B3.out) (HP0.out.keep B3.out)).mono ?_; rintro e u4 ⟨xm, xp, mid, rfl, hxm, hmd, hxp, hml, hmh, hb4⟩
      have B4 := Lib.hid (B3.out.trans (hb4.mono B3.out.size))
      have S0_4 := Lib.hid (OwnT.keep S0_3.out hb4)
      clear S0_3
      have Xm_4 := Lib.hid (TIn.mk hxm)
      have Xp_4 := Lib.hid (TIn.mk hxp)
      clear hb4
      clear qa0 qa1 qa2 qa3
      have hx1 : ∀ k, xm.ownBlock = some k → k < u4.heap.size := fun k hk => (World.ownsRow.lt hxm k hk).2
      have hx2 : ∀ k, xp.ownBlock = some k → k < u4.heap.size := fun k hk => (World.ownsRow.lt hxp k hk).2
      have HX := Lib.hid (And.intro hx1 (And.intro hx2 (And.intro hmd (And.intro hml hmh))))
      clear hxm hmd hxp hml hmh hx1 hx2
      obtain ⟨A3, n3, c3, rfl⟩ := ownt_sh3 Xm_4.out.own
      obtain ⟨A4, n4, c4, rfl⟩ := ownt_sh3 Xp_4.out.own
      obtain ⟨W5, hW5⟩ : ∃ W5, W5 = u4.alloc (.cells #[.int .i64 d0, .int .i64 e0, .slice A3 n3 c3, .slice A4 n4 c4] 61) := ⟨_, rfl⟩
      have kb : Below u4.heap.size u4 W5 := by rw [hW5]; exact (Below.refl _ _).alloc (Nat.le_refl _) _
      have bx : Bk W5 u4.heap.size (bcV d0 e0 (.slice A3 n3 c3) (.slice A4 n4 c4)) := by rw [hW5]; exact Bk.new u4 (bcV d0 e0 (.slice A3 n3 c3) (.slice A4 n4 c4)) _ _ rfl
      have hsz5 : u4.heap.size ≤ W5.heap.size := kb.size
      have BB := Lib.hid (B4.out.trans (kb.mono B4.out.size))
      have S0_5 := Lib.hid (OwnT.keep S0_4.out kb)
      have Xm_5 := Lib.hid (Xm_4.out.keep kb)
      have Xp_5 := Lib.hid (Xp_4.out.keep kb)
      clear S0_4 Xm_4 Xp_4
      have X_b := Lib.hid bx
      have HW5 := Lib.hid hW5
      have HS5 := Lib.hid hsz5
      have qb := hW5 ▸ bx.c 0 _ rfl
      have qb1 := hW5 ▸ bx.c 1 _ rfl
      have qb2 := hW5 ▸ bx.c 2 _ rfl
      have qb3 := hW5 ▸ bx.c 3 _ rfl
      clear kb bx hW5 hsz5
      go_wp2_with fail
      rw [← HW5.out]
      clear qb qb1 qb2 qb3
      go_wp2_with fail
      refine (HI.out _ _ _ Xm_5.out.own.rds Xp_5.out.own.rds (HMX.out _ (HBB.out.trans (BB.out.mono HBB.out.size)))).mono ?_; rintro e u6 ⟨gv0, rfl, hg0, hb6⟩
      have B6 := Lib.hid (BB.out.trans (hb6.mono BB.out.size))
      have BG := Lib.hid (fun k hk => (World.ownsRow.lt hg0 k hk).1)
      have DA := Lib.hid (apartT_of S0_5.out hg0 (Nat.le_refl _))
      have LO := Lib.hid (BB.out.size)
      have S0_6 := Lib.hid (OwnT.keep S0_5.out hb6)
      have Xm_6 := Lib.hid (Xm_5.out.keep hb6)
      have Xp_6 := Lib.hid (Xp_5.out.keep hb6)
      have X_6 := Lib.hid (X_b.out.keep hb6)
      clear S0_5 Xm_5 Xp_5 X_b
      have G0_6 := Lib.hid hg0
      clear hb6 hg0
      go_wp2_with fail
      refine (eqStringS_rd _ _ _ y0 G0_6.out.rds S0_6.out.rds).mono ?_; rintro e u7 ⟨rfl, q7, rfl⟩
      have B7 := Lib.hid (below_drewN B6.out q7)
      have S0_7 := Lib.hid (OwnT.keep S0_6.out (below_drewN (Below.refl _ _) q7))
      have Xm_7 := Lib.hid (Xm_6.out.drewN q7)
      have Xp_7 := Lib.hid (Xp_6.out.drewN q7)
      have X_7 := Lib.hid (X_6.out.drewN q7)
      have G0_7 := Lib.hid (OwnT.keep G0_6.out (below_drewN (Below.refl _ _) q7))
      clear S0_6 Xm_6 Xp_6 X_6 G0_6
      go_wp2_with fail
      have t0 := KB.drew ⟨HO0.out.keep B7.out, X_7.out⟩
      have S0_d := Lib.hid (OwnT.keep S0_7.out (Below.refl _ _).drew)
      have Xm_d := Lib.hid (Xm_7.out.keep (Below.refl _ _).drew)
      have Xp_d := Lib.hid (Xp_7.out.keep (Below.refl _ _).drew)
      have X_d := Lib.hid (X_7.out.keep (Below.refl _ _).drew)
      have G0_d := Lib.hid (OwnT.keep G0_7.out (Below.refl _ _).drew)
      have B6 := Lib.hid (B7.out.drew)
      obtain ⟨qa0, qa1, qa2, qa3, qb0, qb1, qb2, qb3⟩ := KB.all t0
      go_region_held3 (fun w' => w'.cell? ⟨w.heap.size, 0, none⟩ = some (.int .i64 d0) ∧ w'.cell? ⟨w.heap.size, 1, none⟩ = some (.int .i64 e0) ∧ w'.cell? ⟨w.heap.size, 2, none⟩ = some (.slice A1 n1 c1) ∧ w'.cell? ⟨w.heap.size, 3, none⟩ = some (.slice A2 n2 c2) ∧ w'.cell? ⟨u4.heap.size, 0, none⟩ = some (.int .i64 d0) ∧ w'.cell? ⟨u4.heap.size, 1, none⟩ = some (.int .i64 e0) ∧ w'.cell? ⟨u4.heap.size, 2, none⟩ = some (.slice A3 n3 c3) ∧ w'.cell? ⟨u4.heap.size, 3, none⟩ = some (.slice A4 n4 c4)) ((first | with_reducible exact KB.all t8 | with_reducible exact KB.all t7 | with_reducible exact KB.all t0.drew | with_reducible exact KB.all t0 | fail))
        (first
          | (go_at_call 52; refine (HT.out _ _ _ (HM0.out.keep B6.out) (HP0.out.keep B6.out)).mono ?_; rintro e u7 ⟨zm, zp, rfl, hzm, hzp, hb7⟩; have t7 := KB.keep t0 hb7; have Zm := Lib.hid hzm; have Zp := Lib.hid hzp; have S0_e := Lib.hid (OwnT.keep S0_d.out hb7); have Xm_e := Lib.hid (Xm_d.out.keep hb7); have Xp_e := Lib.hid (Xp_d.out.keep hb7); have X_e := Lib.hid (X_d.out.keep hb7); have G0_e := Lib.hid (OwnT.keep G0_d.out hb7); have B7 := Lib.hid (B6.out.trans (hb7.mono B6.out.size)); obtain ⟨qa0, qa1, qa2, qa3, qb0, qb1, qb2, qb3⟩ := KB.all t7; clear hb7 hzm hzp)
          | (go_at_call 54; refine (eqBlockCode_rd _ d0 e0 _ _ _ _ m0 p0 Xm_e.out.own.rds Xp_e.out.own.rds Zm.out Zp.out).mono ?_; rintro e w8 ⟨rfl, hb8⟩; have t8 := KB.keep t7 hb8; have S0_f := Lib.hid (OwnT.keep S0_e.out hb8); have Xm_f := Lib.hid (Xm_e.out.keep hb8); have Xp_f := Lib.hid (Xp_e.out.keep hb8); have X_f := Lib.hid (X_e.out.keep hb8); have G0_f := Lib.hid (OwnT.keep G0_e.out hb8); have B8x := Lib.hid (B7.out.trans (hb8.mono B7.out.size)); obtain ⟨qa0, qa1, qa2, qa3, qb0, qb1, qb2, qb3⟩ := KB.all t8; clear hb8)
          | fail)
      go_wp2_with fail
      obtain ⟨hx1, hx2, hx3, hx4, hx5⟩ := HX.out
      refine (markBlockCode_any _ u3.heap.size mid d0 e0 _ _ m0 p0 Xm_f.out.own hx3 Xp_f.out.own hx4 (by have := X_f.out.2.2; omega) HL.out.1.1 HL.out.2.1).mono ?_; rintro e w9 ⟨rfl, hsm, hb9⟩
      have B9 := Lib.hid (B8x.out.trans (hb9.mono B3.out.size))
      have hxs := X_f.out.2.2
      have GLT := World.ownsRow.lt G0_f.out
      have SLT := World.ownsRow.lt S0_f.out
      have S0_20 := Lib.hid (OwnT.same S0_f.out (fun k hk => hsm k (SLT k hk).2 (Or.inl (BS.out k hk))))
      have G0_20 := Lib.hid (OwnT.same G0_f.out (fun k hk => hsm k (GLT k hk).2 (Or.inr ⟨fun e => by have z1 := hx1 k e.symm; have z2 := HS5.out; have z3 := BG.out k hk; omega, fun e => by have z1 := hx2 k e.symm; have z2 := HS5.out; have z3 := BG.out k hk; omega⟩)))
      clear S0_f G0_f Xm_f Xp_f X_f hb9 hsm hxs GLT SLT hx1 hx2 hx3 hx4 hx5
      go_wp2_with fail
      refine (eqStringS_rd _ _ _ y0 G0_20.out.rds S0_20.out.rds).mono ?_; rintro e u21 ⟨rfl, q21, rfl⟩
      have B21 := Lib.hid (below_drewN B9.out q21)
      have S0_21 := Lib.hid (OwnT.keep S0_20.out (below_drewN (Below.refl _ _) q21))
      have G0_21 := Lib.hid (OwnT.keep G0_20.out (below_drewN (Below.refl _ _) q21))
      clear S0_20 G0_20
      go_wp2_with fail
      refine (markStringS_any _ _ _ y0 1 (by decide) (by omega) G0_21.out).mono ?_; rintro e u23 ⟨rfl, hm23, ht23⟩
      have G0_23 := Lib.hid hm23
      have S0_23 := Lib.hid (OwnT.mark S0_21.out ht23 DA.out)
      have B23 := Lib.hid (below_trn B21.out ht23 G0_21.out LO.out B21.out.size)
      clear hm23 ht23 S0_21 G0_21
      rw [show ((1 + y0.length : Nat) : Int) = 1 + (y0.length : Int) from by omega]
      go_wp2_with fail
      refine (heldStringS_any _ _ _ y0.length 1 (by decide) (by omega) G0_23.out).mono ?_; rintro e u25 ⟨rfl, hb25⟩
      have B25 := Lib.hid (B23.out.trans (hb25.mono B23.out.size))
      have S0_25 := Lib.hid (OwnT.keep S0_23.out hb25)
      have G0_25 := Lib.hid (OwnT.keep G0_23.out hb25)
      clear hb25 S0_23 G0_23
      rw [show ((1 + y0.length : Nat) : Int) = 1 + (y0.length : Int) from by omega]
      obtain ⟨qa0, qa1, qa2, qa3⟩ := bc_all (HO0.out.keep B25.out)
      go_wp2_with fail
      refine (HT.out _ _ _ (HM0.out.keep B25.out) (HP0.out.keep B25.out)).mono ?_; rintro e u27 ⟨qm, qp, rfl, hqm, hqp, hb27⟩
      have B27 := Lib.hid (B25.out.trans (hb27.mono B25.out.size))
      have S0_27 := Lib.hid (OwnT.keep S0_25.out hb27)
      have G0_27 := Lib.hid (OwnT.keep G0_25.out hb27)
      have Qm_27 := Lib.hid (hqm)
      have Qp_27 := Lib.hid (hqp)
      clear hb27 hqm hqp qa0 qa1 qa2 qa3 S0_25 G0_25
      go_wp2_with fail
      refine (HI.out _ _ _ Qm_27.out Qp_27.out (HMX.out _ (HBB.out.trans (B27.out.mono HBB.out.size)))).mono ?_; rintro e u28 ⟨kv0, rfl, hk0, hb28⟩
      have B28 := Lib.hid (B27.out.trans (hb28.mono B27.out.size))
      have S0_28 := Lib.hid (OwnT.keep S0_27.out hb28)
      have G0_28 := Lib.hid (OwnT.keep G0_27.out hb28)
      have H0_28 := Lib.hid hk0
      clear hb28 hk0 S0_27 G0_27 Qm_27 Qp_27
      go_wp2_with fail
      refine (eqStringS_rd _ _ _ y0 H0_28.out.rds S0_28.out.rds).mono ?_; rintro e u29 ⟨rfl, q29, rfl⟩
      have B29 := Lib.hid (below_drewN B28.out q29)
      have G0_29 := Lib.hid (OwnT.keep G0_28.out (below_drewN (Below.refl _ _) q29))
      clear S0_28 G0_28 H0_28
      go_wp2_with fail
      refine (heldStringS_any _ _ _ y0.length 1 (by decide) (by omega) G0_29.out).mono ?_; rintro e u31 ⟨rfl, hb31⟩
      have B31 := Lib.hid (B29.out.trans (hb31.mono B29.out.size))
      clear hb31
      rw [show ((1 + y0.length : Nat) : Int) = 1 + (y0.length : Int) from by omega]
      go_wp2_with fail
      go_ret
      exact ⟨rfl, HBB.out.trans (B31.out.mono HBB.out.size)⟩
end Go.Proofs.Ytijmfienaoeboab
