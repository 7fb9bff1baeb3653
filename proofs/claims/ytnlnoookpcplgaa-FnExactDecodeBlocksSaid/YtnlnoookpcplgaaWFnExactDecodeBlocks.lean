/- The walk of the law FnExactDecodeBlocks. -/
import Derived.Test.YtnlnoookpcplgaaDeS
import Derived.Test.YtnlnoookpcplgaaDeI
import Derived.Test.YtnlnoookpcplgaaBl
import Derived.Test.YtnlnoookpcplgaaMb
namespace Go.Proofs.Ytnlnoookpcplgaa
open Go Go.RowKit
set_option linter.unusedVariables false

theorem deR_small (d wd : Int) (m p : List ByteArray) (s : Int) (b : ByteArray) : (deR d wd m p s b).1.length ≤ 2000000 ∧ (deR d wd m p s b).2.1.length ≤ 2000000 := by
  cases h : deOk d wd m p s b
  · rw [deR_no h]; exact ⟨by simp, by simp⟩
  · rw [deR_yes h]
    unfold deOk at h
    obtain ⟨h0, h1⟩ := Bool.and_eq_true_iff.1 h
    obtain ⟨h2, h3⟩ := Bool.and_eq_true_iff.1 h1
    obtain ⟨h4, h5⟩ := Bool.and_eq_true_iff.1 h3
    have hs : b.size ≤ 400 := by have := (isB_parts h4).1; simpa using this
    have hn : b.size / wd.toNat ≤ 400 := Nat.le_trans (Nat.div_le_self _ _) hs
    obtain ⟨h6, h7⟩ := (deS_all m p s (of_decide_eq_true h2) _ _ (wordsL_len b wd.toNat (b.size / wd.toNat))).1
    exact ⟨by omega, by omega⟩
theorem ownt_sh3 {w : World} {base : Nat} {v : Value} {l : List ByteArray} (h : OwnT w base v l) : ∃ A n c, v = .slice A n c := by
  obtain ⟨A, c, e⟩ := ownt_shape h
  exact ⟨A, _, c, e⟩
/-- A row of texts below a number. -/
structure TIn (w : World) (lo : Nat) (v : Value) (l : List ByteArray) : Prop where
  own : OwnT w lo v l
theorem TIn.keep {w w' : World} {lo : Nat} {v : Value} {l : List ByteArray} (h : TIn w lo v l) (hb : Below w.heap.size w w') : TIn w' lo v l := ⟨OwnT.keep h.own hb⟩
theorem TIn.drewN {w : World} {lo : Nat} {v : Value} {l : List ByteArray} (h : TIn w lo v l) (q : Nat) : TIn (w.drewN q) lo v l := ⟨h.own⟩
theorem Apart.mark {w w' : World} {lo hi : Nat} {v u : Value} {l : List Int} (h : OwnIn w lo hi v l) (ha : Apart v u) (hg : w.grownBy w' u.ownBlock) (hz : w'.heap.size = w.heap.size) : OwnIn w' lo hi v l := by
  refine ⟨h.1.kept hg ?_, h.2.1, by rw [hz]; exact h.2.2⟩
  cases hv : v.ownBlock with
  | none => exact .inl rfl
  | some k => exact .inr fun e => ha k hv e.symm
theorem OwnIn.same {w w' : World} {lo hi : Nat} {v : Value} {l : List Int} (h : OwnIn w lo hi v l) (hs : w.heap.size ≤ w'.heap.size) (hk : ∀ k, k < w.heap.size → lo ≤ k → k < hi → w'.heap[k]? = w.heap[k]?) : OwnIn w' lo hi v l := by
  refine ⟨⟨h.1.1, ?_⟩, h.2.1, Nat.le_trans h.2.2 hs⟩
  rcases h.1.2 with h' | ⟨g, cap, cur, rfl, h1, hg, h2, h3, h4, h5⟩
  · exact .inl h'
  · have hr := h.2.1 g (by simp [Value.ownBlock])
    exact .inr ⟨g, cap, cur, rfl, h1, by rw [hk g (by have := h.2.2; omega) hr.1 hr.2]; exact hg, h2, h3, h4, h5⟩

set_option maxHeartbeats 3200000 in
set_option maxRecDepth 100000 in
theorem law_FnExactDecodeBlocks (d0 e0 : Int) (v0 u0 : Value) (m0 p0 : List ByteArray) (sm : ∀ s ∈ m0, s.size ≤ maxLen) (sp : ∀ s ∈ p0, s.size ≤ maxLen) (a1 : Int) (w1 : (Lit.int .i64 a1).wf = true) (a2 : ByteArray) (w2 : a2.size ≤ maxLen) (w : World) (rm : RdS w v0 m0) (rp : RdS w u0 p0) :
    Calls Try.prog 8 #[.agg #[.int .i64 d0, .int .i64 e0, v0, u0], .int .i64 a1, .string a2] w fun e w' => e = .returned (.bool true) ∧ Below w.heap.size w w' := by
  obtain ⟨A1, n1, c1, rfl⟩ := rds_sh2 rm
  obtain ⟨A2, n2, c2, rfl⟩ := rds_sh2 rp
  obtain ⟨W0, hW0⟩ : ∃ W0, W0 = w.alloc (.cells #[.int .i64 d0, .int .i64 e0, .slice A1 n1 c1, .slice A2 n2 c2] 24) := ⟨_, rfl⟩
  have hb0 : Below w.heap.size w W0 := by rw [hW0]; exact (Below.refl _ _).alloc (Nat.le_refl _) _
  have ho0 : Bk W0 w.heap.size (bcV d0 e0 (.slice A1 n1 c1) (.slice A2 n2 c2)) := by rw [hW0]; exact Bk.new w (bcV d0 e0 (.slice A1 n1 c1) (.slice A2 n2 c2)) _ _ rfl
  have HW := Lib.hid hW0
  have HBB := Lib.hid hb0
  have HO0 := Lib.hid ho0
  have HM0 := Lib.hid (rm.keep hb0)
  have HP0 := Lib.hid (rp.keep hb0)
  have HB0 := Lib.hid (Below.refl W0.heap.size W0)
  clear hW0 hb0 ho0 rm rp
  have s2 : a2.size ≤ 9223372036854775807 := by have := w2; unfold maxLen at this; exact this
  by_cases h2 : a2.size ≤ 1048576
  rotate_left
  · clear sm sp w1 w2
    go_enter Try.func8, Try.ntmps8
    go_wp2_with fail
    go_ret
    exact ⟨rfl, (Below.refl _ _).alloc (Nat.le_refl _) _⟩
  have HZ := Lib.hid (fun W hm hp => szBlockCode_any W d0 e0 (.slice A1 n1 c1) (.slice A2 n2 c2) m0 p0 hm hp sm sp)
  have hok := @szBC_ok m0 p0
  by_cases hz0 : szBC m0 p0 < 0
  · clear sm sp hok w1 w2
    generalize szBC m0 p0 = z at *
    go_enter Try.func8, Try.ntmps8
    go_wp2_with fail
    rw [← HW.out]
    obtain ⟨qa0, qa1, qa2, qa3⟩ := bc_all HO0.out
    go_wp2_with fail
    refine (HZ.out _ HM0.out HP0.out).mono ?_; rintro e u1 ⟨rfl, hb1⟩
    have B1 := Lib.hid (HBB.out.trans (hb1.mono HBB.out.size))
    clear hb1 qa0 qa1 qa2 qa3
    go_wp2_with fail
    go_ret
    exact ⟨rfl, B1.out⟩
  have HL := Lib.hid (hok hz0)
  have hgm : ∀ s ∈ m0, s.size ≤ 4000000 := fun s hs => by have := HL.out.1.2 s hs; omega
  have hgp : ∀ s ∈ p0, s.size ≤ 4000000 := fun s hs => by have := HL.out.2.2 s hs; omega
  have hlm : m0.length ≤ 4000000 := by have := HL.out.1.1; omega
  have hlp : p0.length ≤ 4000000 := by have := HL.out.2.1; omega
  clear hok sm sp
  generalize szBC m0 p0 = z at *
  have HS := Lib.hid (fun (W : World) (vm vp : Value) (hm : RdS W vm m0) (hp : RdS W vp p0) => decodeBlocks_spec W d0 e0 vm vp m0 p0 a1 a2 hm hp hgm hgp w2)
  have HI := Lib.hid (fun (W : World) (vm vp : Value) (hm : RdS W vm m0) (hp : RdS W vp p0) => decodeBlocks_impl W d0 e0 vm vp m0 p0 a1 a2 hm hp hgm hgp hlm hlp w2)
  have HT := Lib.hid (fun (W : World) (vm vp : Value) (hm : RdS W vm m0) (hp : RdS W vp p0) => toBlockCode_any W d0 e0 vm vp m0 p0 hm hp hlm hlp)
  have HT2 := Lib.hid (fun (W : World) (vm vp : Value) (hm : RdS W vm m0) (hp : RdS W vp p0) => toBlockCode_own W d0 e0 vm vp m0 p0 hm hp hlm hlp)
  obtain ⟨hl0, hl1⟩ := deR_small d0 e0 m0 p0 a1 a2
  clear hgm hgp hlm hlp w1 w2
  generalize deR d0 e0 m0 p0 a1 a2 = R at *
  generalize deOk d0 e0 m0 p0 a1 a2 = y3 at *
  obtain ⟨R0, R1, y2⟩ := R
  simp only at HS HI hl0 hl1
  cases y3
  all_goals
      have ee2 : (y2 != y2) = false := by simp
      have m1 : ¬ ((1 + (R0.length : Int) + (R1.length : Int) : Int) < 0) := by omega
      have m2 : ((1 + (R0.length : Int) + (R1.length : Int) : Int) != (1 + (R0.length : Int) + (R1.length : Int) : Int)) = false := by simp
      have m3 : ¬ ((1 + (R0.length : Int) : Int) < 0) := by omega
      have m4 : ¬ (((1 + m0.length + p0.length : Nat) : Int) < 0) := by omega
      go_enter Try.func8, Try.ntmps8
      go_wp2_with fail
      rw [← HW.out]
      obtain ⟨qa0, qa1, qa2, qa3⟩ := bc_all (HO0.out.keep HB0.out)
      go_wp2_with fail
      refine (HZ.out _ HM0.out HP0.out).mono ?_; rintro e u1 ⟨rfl, hb1⟩
      have B1 := Lib.hid (HB0.out.trans (hb1.mono HB0.out.size))
      clear hb1
      clear qa0 qa1 qa2 qa3
      obtain ⟨qa0, qa1, qa2, qa3⟩ := bc_all (HO0.out.keep B1.out)
      go_wp2_with fail
      refine (HT.out _ _ _ (HM0.out.keep B1.out) (HP0.out.keep B1.out)).mono ?_; rintro e u2 ⟨ym, yp, rfl, hym, hyp, hb2⟩
      have B2 := Lib.hid (B1.out.trans (hb2.mono B1.out.size))
      have Ym_2 := Lib.hid (hym)
      have Yp_2 := Lib.hid (hyp)
      clear hb2
      clear hym hyp
      clear qa0 qa1 qa2 qa3
      go_wp2_with fail
      refine (HS.out _ _ _ Ym_2.out Yp_2.out).mono ?_; rintro e u3 ⟨sv0, sv1, rfl, hs0, hs1, hb3⟩
      have B3 := Lib.hid (B2.out.trans (hb3.mono B2.out.size))
      have Ym_3 := Lib.hid (Ym_2.out.keep hb3)
      have Yp_3 := Lib.hid (Yp_2.out.keep hb3)
      clear Ym_2 Yp_2
      have S0_3 := Lib.hid (OwnIn.of hs0)
      have S1_3 := Lib.hid (OwnIn.of hs1)
      clear hb3
      clear hs0 hs1
      clear Ym_3
      clear Yp_3
      obtain ⟨qa0, qa1, qa2, qa3⟩ := bc_all (HO0.out.keep B3.out)
      go_wp2_with fail
      refine (HT2.out _ _ _ (HM0.out.keep B3.out) (HP0.out.keep B3.out)).mono ?_; rintro e u4 ⟨xm, xp, mid, rfl, hxm, hmd, hxp, hml, hmh, hb4⟩
      have B4 := Lib.hid (B3.out.trans (hb4.mono B3.out.size))
      have S0_4 := Lib.hid (S0_3.out.keep hb4)
      have S1_4 := Lib.hid (S1_3.out.keep hb4)
      clear S0_3 S1_3
      have Xm_4 := Lib.hid (TIn.mk hxm)
      have Xp_4 := Lib.hid (TIn.mk hxp)
      clear hb4
      clear qa0 qa1 qa2 qa3
      have hx1 : ∀ k, xm.ownBlock = some k → k < u4.heap.size := fun k hk => (World.ownsRow.lt hxm k hk).2
      have hx2 : ∀ k, xp.ownBlock = some k → k < u4.heap.size := fun k hk => (World.ownsRow.lt hxp k hk).2
      have HX := Lib.hid (And.intro hx1 (And.intro hx2 (And.intro hmd (And.intro hml hmh))))
      clear hxm hmd hxp hml hmh hx1 hx2
      obtain ⟨A3, n3, c3, rfl⟩ := ownt_sh3 Xm_4.out.own
      obtain ⟨A4, n4, c4, rfl⟩ := ownt_sh3 Xp_4.out.own
      obtain ⟨W5, hW5⟩ : ∃ W5, W5 = u4.alloc (.cells #[.int .i64 d0, .int .i64 e0, .slice A3 n3 c3, .slice A4 n4 c4] 27) := ⟨_, rfl⟩
      have kb : Below u4.heap.size u4 W5 := by rw [hW5]; exact (Below.refl _ _).alloc (Nat.le_refl _) _
      have bx : Bk W5 u4.heap.size (bcV d0 e0 (.slice A3 n3 c3) (.slice A4 n4 c4)) := by rw [hW5]; exact Bk.new u4 (bcV d0 e0 (.slice A3 n3 c3) (.slice A4 n4 c4)) _ _ rfl
      have hsz5 : u4.heap.size ≤ W5.heap.size := kb.size
      have BB := Lib.hid (B4.out.trans (kb.mono B4.out.size))
      have S0_5 := Lib.hid (S0_4.out.keep kb)
      have S1_5 := Lib.hid (S1_4.out.keep kb)
      have Xm_5 := Lib.hid (Xm_4.out.keep kb)
      have Xp_5 := Lib.hid (Xp_4.out.keep kb)
      clear S0_4 S1_4 Xm_4 Xp_4
      have X_b := Lib.hid bx
      have HW5 := Lib.hid hW5
      have HS5 := Lib.hid hsz5
      have qb := hW5 ▸ bx.c 0 _ rfl
      have qb1 := hW5 ▸ bx.c 1 _ rfl
      have qb2 := hW5 ▸ bx.c 2 _ rfl
      have qb3 := hW5 ▸ bx.c 3 _ rfl
      clear kb bx hW5 hsz5
      go_wp2_with fail
      rw [← HW5.out]
      clear qb qb1 qb2 qb3
      go_wp2_with fail
      refine (HI.out _ _ _ Xm_5.out.own.rds Xp_5.out.own.rds).mono ?_; rintro e u6 ⟨gv0, gv1, rfl, hg0, hg1, hap, hb6⟩
      have B6 := Lib.hid (BB.out.trans (hb6.mono BB.out.size))
      have S0_6 := Lib.hid (S0_5.out.keep hb6)
      have S1_6 := Lib.hid (S1_5.out.keep hb6)
      have Xm_6 := Lib.hid (Xm_5.out.keep hb6)
      have Xp_6 := Lib.hid (Xp_5.out.keep hb6)
      have X_6 := Lib.hid (X_b.out.keep hb6)
      clear S0_5 S1_5 Xm_5 Xp_5 X_b
      have G0_6 := Lib.hid (OwnIn.of hg0)
      have G1_6 := Lib.hid (OwnIn.of hg1)
      clear hb6
      have HAP := Lib.hid hap
      clear hg0 hg1 hap
      go_wp2_with fail
      refine (eqInt64S_rd _ _ _ R0 G0_6.out.rd S0_6.out.rd).mono ?_; rintro e u7 ⟨rfl, q7, rfl⟩
      have B7 := Lib.hid (below_drewN B6.out q7)
      have S0_7 := Lib.hid (S0_6.out.drewN q7)
      have S1_7 := Lib.hid (S1_6.out.drewN q7)
      have Xm_7 := Lib.hid (Xm_6.out.drewN q7)
      have Xp_7 := Lib.hid (Xp_6.out.drewN q7)
      have X_7 := Lib.hid (X_6.out.drewN q7)
      have G0_7 := Lib.hid (G0_6.out.drewN q7)
      have G1_7 := Lib.hid (G1_6.out.drewN q7)
      clear S0_6 S1_6 Xm_6 Xp_6 X_6 G0_6 G1_6
      go_wp2_with fail
      refine (eqInt64S_rd _ _ _ R1 G1_7.out.rd S1_7.out.rd).mono ?_; rintro e u8 ⟨rfl, q8, rfl⟩
      have B8 := Lib.hid (below_drewN B7.out q8)
      have S0_8 := Lib.hid (S0_7.out.drewN q8)
      have S1_8 := Lib.hid (S1_7.out.drewN q8)
      have Xm_8 := Lib.hid (Xm_7.out.drewN q8)
      have Xp_8 := Lib.hid (Xp_7.out.drewN q8)
      have X_8 := Lib.hid (X_7.out.drewN q8)
      have G0_8 := Lib.hid (G0_7.out.drewN q8)
      have G1_8 := Lib.hid (G1_7.out.drewN q8)
      clear S0_7 S1_7 Xm_7 Xp_7 X_7 G0_7 G1_7
      simp only [World.drewN_drewN] at B8 S0_8 S1_8 Xm_8 Xp_8 X_8 G0_8 G1_8
      go_wp2_with fail
      have t0 := KB.drew ⟨HO0.out.keep B8.out, X_8.out⟩
      have S0_d := Lib.hid (S0_8.out.keep (Below.refl _ _).drew)
      have S1_d := Lib.hid (S1_8.out.keep (Below.refl _ _).drew)
      have Xm_d := Lib.hid (Xm_8.out.keep (Below.refl _ _).drew)
      have Xp_d := Lib.hid (Xp_8.out.keep (Below.refl _ _).drew)
      have X_d := Lib.hid (X_8.out.keep (Below.refl _ _).drew)
      have G0_d := Lib.hid (G0_8.out.keep (Below.refl _ _).drew)
      have G1_d := Lib.hid (G1_8.out.keep (Below.refl _ _).drew)
      have B6 := Lib.hid (B8.out.drew)
      obtain ⟨qa0, qa1, qa2, qa3, qb0, qb1, qb2, qb3⟩ := KB.all t0
      go_region_held3 (fun w' => w'.cell? ⟨w.heap.size, 0, none⟩ = some (.int .i64 d0) ∧ w'.cell? ⟨w.heap.size, 1, none⟩ = some (.int .i64 e0) ∧ w'.cell? ⟨w.heap.size, 2, none⟩ = some (.slice A1 n1 c1) ∧ w'.cell? ⟨w.heap.size, 3, none⟩ = some (.slice A2 n2 c2) ∧ w'.cell? ⟨u4.heap.size, 0, none⟩ = some (.int .i64 d0) ∧ w'.cell? ⟨u4.heap.size, 1, none⟩ = some (.int .i64 e0) ∧ w'.cell? ⟨u4.heap.size, 2, none⟩ = some (.slice A3 n3 c3) ∧ w'.cell? ⟨u4.heap.size, 3, none⟩ = some (.slice A4 n4 c4)) ((first | with_reducible exact KB.all t8 | with_reducible exact KB.all t7 | with_reducible exact KB.all t0.drew | with_reducible exact KB.all t0 | fail))
        (first
          | (go_at_call 17; refine (HT.out _ _ _ (HM0.out.keep B6.out) (HP0.out.keep B6.out)).mono ?_; rintro e u7 ⟨zm, zp, rfl, hzm, hzp, hb7⟩; have t7 := KB.keep t0 hb7; have Zm := Lib.hid hzm; have Zp := Lib.hid hzp; have S0_e := Lib.hid (S0_d.out.keep hb7); have S1_e := Lib.hid (S1_d.out.keep hb7); have Xm_e := Lib.hid (Xm_d.out.keep hb7); have Xp_e := Lib.hid (Xp_d.out.keep hb7); have X_e := Lib.hid (X_d.out.keep hb7); have G0_e := Lib.hid (G0_d.out.keep hb7); have G1_e := Lib.hid (G1_d.out.keep hb7); have B7 := Lib.hid (B6.out.trans (hb7.mono B6.out.size)); obtain ⟨qa0, qa1, qa2, qa3, qb0, qb1, qb2, qb3⟩ := KB.all t7; clear hb7 hzm hzp)
          | (go_at_call 19; refine (eqBlockCode_rd _ d0 e0 _ _ _ _ m0 p0 Xm_e.out.own.rds Xp_e.out.own.rds Zm.out Zp.out).mono ?_; rintro e w8 ⟨rfl, hb8⟩; have t8 := KB.keep t7 hb8; have S0_f := Lib.hid (S0_e.out.keep hb8); have S1_f := Lib.hid (S1_e.out.keep hb8); have Xm_f := Lib.hid (Xm_e.out.keep hb8); have Xp_f := Lib.hid (Xp_e.out.keep hb8); have X_f := Lib.hid (X_e.out.keep hb8); have G0_f := Lib.hid (G0_e.out.keep hb8); have G1_f := Lib.hid (G1_e.out.keep hb8); have B8x := Lib.hid (B7.out.trans (hb8.mono B7.out.size)); obtain ⟨qa0, qa1, qa2, qa3, qb0, qb1, qb2, qb3⟩ := KB.all t8; clear hb8)
          | fail)
      go_wp2_with fail
      obtain ⟨hx1, hx2, hx3, hx4, hx5⟩ := HX.out
      refine (markBlockCode_any _ u3.heap.size mid d0 e0 _ _ m0 p0 Xm_f.out.own hx3 Xp_f.out.own hx4 (by have := X_f.out.2.2; omega) HL.out.1.1 HL.out.2.1).mono ?_; rintro e w9 ⟨rfl, hsm, hb9⟩
      have B9 := Lib.hid (B8x.out.trans (hb9.mono B3.out.size))
      clear Xm_f
      clear Xp_f
      clear X_f
      have HSM := Lib.hid hsm
      have S0_20 := Lib.hid (OwnIn.same S0_f.out hb9.size (fun k hk h1 h2 => hsm k hk (Or.inl h2)))
      have S1_20 := Lib.hid (OwnIn.same S1_f.out hb9.size (fun k hk h1 h2 => hsm k hk (Or.inl h2)))
      have G0_20 := Lib.hid (OwnIn.same G0_f.out hb9.size (fun k hk h1 h2 => hsm k hk (Or.inr ⟨fun e => by have z1 := hx1 k e.symm; have z2 := HS5.out; omega, fun e => by have z1 := hx2 k e.symm; have z2 := HS5.out; omega⟩)))
      have G1_20 := Lib.hid (OwnIn.same G1_f.out hb9.size (fun k hk h1 h2 => hsm k hk (Or.inr ⟨fun e => by have z1 := hx1 k e.symm; have z2 := HS5.out; omega, fun e => by have z1 := hx2 k e.symm; have z2 := HS5.out; omega⟩)))
      clear S0_f S1_f G0_f G1_f
      clear hb9 hsm HSM
      have DIS := Lib.hid (show u3.heap.size ≤ W5.heap.size from by have z2 := HS5.out; omega)
      clear hx1 hx2 hx3 hx4 hx5
      go_wp2_with fail
      refine (eqInt64S_rd _ _ _ R0 G0_20.out.rd S0_20.out.rd).mono ?_; rintro e u21 ⟨rfl, q21, rfl⟩
      have B21 := Lib.hid (below_drewN B9.out q21)
      have S0_21 := Lib.hid (S0_20.out.drewN q21)
      have S1_21 := Lib.hid (S1_20.out.drewN q21)
      have G0_21 := Lib.hid (G0_20.out.drewN q21)
      have G1_21 := Lib.hid (G1_20.out.drewN q21)
      clear S0_20 S1_20 G0_20 G1_20
      go_wp2_with fail
      refine (eqInt64S_rd _ _ _ R1 G1_21.out.rd S1_21.out.rd).mono ?_; rintro e u22 ⟨rfl, q22, rfl⟩
      have B22 := Lib.hid (below_drewN B21.out q22)
      have S0_22 := Lib.hid (S0_21.out.drewN q22)
      have S1_22 := Lib.hid (S1_21.out.drewN q22)
      have G0_22 := Lib.hid (G0_21.out.drewN q22)
      have G1_22 := Lib.hid (G1_21.out.drewN q22)
      clear S0_21 S1_21 G0_21 G1_21
      simp only [World.drewN_drewN] at B22 S0_22 S1_22 G0_22 G1_22
      go_wp2_with fail
      refine (markInt64S_any _ _ _ R0 (1) (by omega) (by omega) (by omega) G0_22.out.1).mono ?_; rintro e u23 ⟨rfl, hm23, hg23, hz23⟩
      have B23 := Lib.hid (OwnIn.belowMark B22.out G0_22.out hg23 BB.out.size B22.out.size)
      have S0_23 := Lib.hid (S0_22.out.other G0_22.out hg23 hz23 (Or.inl DIS.out))
      have S1_23 := Lib.hid (S1_22.out.other G0_22.out hg23 hz23 (Or.inl DIS.out))
      have G0_23 := Lib.hid (G0_22.out.marked hm23 hz23)
      have G1_23 := Lib.hid (Apart.mark G1_22.out HAP.out.symm hg23 hz23)
      clear S0_22 S1_22 G0_22 G1_22
      clear hm23 hg23 hz23
      go_wp2_with fail
      refine (markInt64S_any _ _ _ R1 (1 + (R0.length : Int)) (by omega) (by omega) (by omega) G1_23.out.1).mono ?_; rintro e u24 ⟨rfl, hm24, hg24, hz24⟩
      have B24 := Lib.hid (OwnIn.belowMark B23.out G1_23.out hg24 BB.out.size B23.out.size)
      have S0_24 := Lib.hid (S0_23.out.other G1_23.out hg24 hz24 (Or.inl DIS.out))
      have S1_24 := Lib.hid (S1_23.out.other G1_23.out hg24 hz24 (Or.inl DIS.out))
      have G0_24 := Lib.hid (Apart.mark G0_23.out HAP.out hg24 hz24)
      have G1_24 := Lib.hid (G1_23.out.marked hm24 hz24)
      clear S0_23 S1_23 G0_23 G1_23
      clear hm24 hg24 hz24
      go_wp2_with fail
      refine (heldInt64S_any _ _ _ R0.length (1) (by omega) (by omega) (by omega) G0_24.out.1).mono ?_; rintro e u25 ⟨rfl, rfl⟩
      go_wp2_with fail
      refine (heldInt64S_any _ _ _ R1.length (1 + (R0.length : Int)) (by omega) (by omega) (by omega) G1_24.out.1).mono ?_; rintro e u26 ⟨rfl, rfl⟩
      obtain ⟨qa0, qa1, qa2, qa3⟩ := bc_all (HO0.out.keep B24.out)
      go_wp2_with fail
      refine (HT.out _ _ _ (HM0.out.keep B24.out) (HP0.out.keep B24.out)).mono ?_; rintro e u27 ⟨qm, qp, rfl, hqm, hqp, hb27⟩
      have B27 := Lib.hid (B24.out.trans (hb27.mono B24.out.size))
      have S0_27 := Lib.hid (S0_24.out.keep hb27)
      have S1_27 := Lib.hid (S1_24.out.keep hb27)
      have G0_27 := Lib.hid (G0_24.out.keep hb27)
      have G1_27 := Lib.hid (G1_24.out.keep hb27)
      clear S0_24 S1_24 G0_24 G1_24
      have Qm_27 := Lib.hid (hqm)
      have Qp_27 := Lib.hid (hqp)
      clear hb27
      clear hqm hqp
      clear qa0 qa1 qa2 qa3
      go_wp2_with fail
      refine (HI.out _ _ _ Qm_27.out Qp_27.out).mono ?_; rintro e u28 ⟨kv0, kv1, rfl, hk0, hk1, hap2, hb28⟩
      have B28 := Lib.hid (B27.out.trans (hb28.mono B27.out.size))
      have S0_28 := Lib.hid (S0_27.out.keep hb28)
      have S1_28 := Lib.hid (S1_27.out.keep hb28)
      have G0_28 := Lib.hid (G0_27.out.keep hb28)
      have G1_28 := Lib.hid (G1_27.out.keep hb28)
      have Qm_28 := Lib.hid (Qm_27.out.keep hb28)
      have Qp_28 := Lib.hid (Qp_27.out.keep hb28)
      clear S0_27 S1_27 G0_27 G1_27 Qm_27 Qp_27
      have H0_28 := Lib.hid (OwnIn.of hk0)
      have H1_28 := Lib.hid (OwnIn.of hk1)
      clear hb28
      clear hk0 hk1 hap2
      clear Qm_28
      clear Qp_28
      go_wp2_with fail
      refine (eqInt64S_rd _ _ _ R0 H0_28.out.rd S0_28.out.rd).mono ?_; rintro e u29 ⟨rfl, q29, rfl⟩
      have B29 := Lib.hid (below_drewN B28.out q29)
      have S0_29 := Lib.hid (S0_28.out.drewN q29)
      have S1_29 := Lib.hid (S1_28.out.drewN q29)
      have G0_29 := Lib.hid (G0_28.out.drewN q29)
      have G1_29 := Lib.hid (G1_28.out.drewN q29)
      have H0_29 := Lib.hid (H0_28.out.drewN q29)
      have H1_29 := Lib.hid (H1_28.out.drewN q29)
      clear S0_28 S1_28 G0_28 G1_28 H0_28 H1_28
      go_wp2_with fail
      refine (eqInt64S_rd _ _ _ R1 H1_29.out.rd S1_29.out.rd).mono ?_; rintro e u30 ⟨rfl, q30, rfl⟩
      have B30 := Lib.hid (below_drewN B29.out q30)
      have S0_30 := Lib.hid (S0_29.out.drewN q30)
      have S1_30 := Lib.hid (S1_29.out.drewN q30)
      have G0_30 := Lib.hid (G0_29.out.drewN q30)
      have G1_30 := Lib.hid (G1_29.out.drewN q30)
      have H0_30 := Lib.hid (H0_29.out.drewN q30)
      have H1_30 := Lib.hid (H1_29.out.drewN q30)
      clear S0_29 S1_29 G0_29 G1_29 H0_29 H1_29
      simp only [World.drewN_drewN] at B30 S0_30 S1_30 G0_30 G1_30 H0_30 H1_30
      go_wp2_with fail
      refine (heldInt64S_any _ _ _ R0.length (1) (by omega) (by omega) (by omega) G0_30.out.1).mono ?_; rintro e u31 ⟨rfl, rfl⟩
      go_wp2_with fail
      refine (heldInt64S_any _ _ _ R1.length (1 + (R0.length : Int)) (by omega) (by omega) (by omega) G1_30.out.1).mono ?_; rintro e u32 ⟨rfl, rfl⟩
      go_wp2_with fail
      go_ret
      exact ⟨rfl, HBB.out.trans (B30.out.mono HBB.out.size)⟩
end Go.Proofs.Ytnlnoookpcplgaa
