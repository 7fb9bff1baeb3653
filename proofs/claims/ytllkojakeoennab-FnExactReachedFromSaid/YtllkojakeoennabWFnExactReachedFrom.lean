/- The walk of the law FnExactReachedFrom. -/
import Derived.Test.YtllkojakeoennabRcl
import Derived.Test.YtllkojakeoennabGv
namespace Go.Proofs.Ytllkojakeoennab
open Go Go.RowKit
set_option linter.unusedVariables false

set_option maxHeartbeats 1600000 in
set_option maxRecDepth 100000 in
theorem law_FnExactReachedFrom (v0 : Value) (l0 : List (List Int)) (k0 : ∀ r ∈ l0, ∀ n ∈ r, (Lit.int .i64 n).wf = true) (a1 : Int) (w1 : (Lit.int .i64 a1).wf = true) (w : World) (r0 : RdG w v0 l0) :
    Calls Try.prog 10 #[.agg #[v0], .int .i64 a1] w fun e w' => e = .returned (.bool true) ∧ Below w.heap.size w w' := by
  obtain ⟨A, n, c, rfl⟩ := rdg_sh r0
  have HR0 := Lib.hid r0
  have HR := Lib.hid (r0.keep ((Below.refl _ _).alloc (Nat.le_refl _) (.cells #[.slice A n c] 50)))
  have HO := Lib.hid (OneC.new w (.slice A n c) 50)
  have HB0 : Hid (Below w.heap.size w (w.alloc (.cells #[.slice A n c] 50))) := (Below.refl _ _).alloc (Nat.le_refl _) _
  clear r0 k0 w1
  have hz := fun h => szG_ok l0 h
  have ht := fun h => Gmx.szG_tot l0 h
  by_cases hz0 : szG l0 < 0
  · clear hz ht
    have HZ := Lib.hid (fun W v h => szGraph_any W v l0 h)
    generalize szG l0 = z at *
    go_enter Try.func10, Try.ntmps10
    go_wp2_with fail
    refine (HZ.out _ _ HR.out).mono ?_; rintro e u1 ⟨rfl, hb1⟩
    have B1 := Lib.hid (HB0.out.trans (hb1.mono HB0.out.size))
    clear hb1
    go_wp2_with fail
    go_ret
    exact ⟨rfl, B1.out⟩
  · have HL := Lib.hid (hz (by omega))
    have hs2 : Gmx.tot l0 ≤ 2000000 := by have := ht (by omega); omega
    have hs1 : l0.length ≤ 2000000 := by have := HL.out.1; omega
    clear hz ht
    have HZ := Lib.hid (fun W v h => szGraph_any W v l0 h)
    generalize szG l0 = z at *
    have HS := Lib.hid (fun (W : World) (v : Value) (h : RdG W v l0) => reachedFrom_spec W v l0 a1 h)
    have HI := Lib.hid (fun (W : World) (v : Value) (h : RdG W v l0) => reachedFrom_impl W v l0 a1 h)
    have hl0 : (rfV l0 a1).length ≤ 12 := rfV_len l0 a1
    have HM := Lib.hid (fun (W : World) (lo hi : Nat) (v : Value) (us : List Value) (h : Gmx.OwnG W lo hi v us l0) => Gmx.markGraph_any W lo hi v us l0 1 (by omega) (by omega) hs1 hs2 h)
    obtain ⟨T, hT⟩ : ∃ T : Int, T = 1 + (Gmx.tot l0 : Nat) := ⟨_, rfl⟩
    rw [← hT] at HM
    have T0 : 0 ≤ T := by omega
    clear hT hs1 hs2
    generalize rfV l0 a1 = y0 at HS HI hl0
    generalize okSt l0 a1 = y1 at HS HI
    cases y1
    all_goals
      have m1 : ¬ ((1 + (y0.length : Int) : Int) < 0) := by omega
      have m2 : ((1 + (y0.length : Int) : Int) != (1 + (y0.length : Int) : Int)) = false := by simp
      have T1 : ¬ T < 0 := by omega
      go_enter Try.func10, Try.ntmps10
      go_wp2_with fail
      refine (HZ.out _ _ HR.out).mono ?_; rintro e u1 ⟨rfl, hb1⟩
      have B1 := Lib.hid (HB0.out.trans (hb1.mono HB0.out.size))
      have O1 := Lib.hid (HO.out.keep hb1)
      have q1 := O1.out.1
      clear hb1 HR HO
      go_wp2_with fail
      refine (toGraph_any _ _ l0 (HR0.out.keep B1.out) (by have := HL.out.1; omega) (fun r hr => by have := HL.out.2 r hr; omega)).mono ?_; rintro e u2 ⟨y, rfl, hy, hb2⟩
      have O2 := Lib.hid (O1.out.keep hb2)
      have B2 := Lib.hid (B1.out.trans (hb2.mono B1.out.size))
      have Y2 := Lib.hid hy
      clear O1 B1 q1 hb2 hy
      go_wp2_with fail
      refine (HS.out _ _ Y2.out).mono ?_; rintro e u3 ⟨sv, rfl, ho3, hb3⟩
      have O3 := Lib.hid (O2.out.keep hb3)
      have B3 := Lib.hid (B2.out.trans (hb3.mono B2.out.size))
      have S3 := Lib.hid (OwnIn.of ho3)
      have q3 := O3.out.1
      have LW := Lib.hid O3.out.2.2
      clear O2 B2 hb3 ho3 Y2
      go_wp2_with fail
      refine (Gmx.toGraph_own _ _ l0 (HR0.out.keep B3.out) (by have := HL.out.1; omega) (fun r hr => by have := HL.out.2 r hr; omega)).mono ?_; rintro e u4 ⟨x, us, rfl, hx, hb4⟩
      obtain ⟨Ax, m, cx, rfl⟩ := rdg_sh hx.rdg
      have kb := hb4.trans (((Below.refl u4.heap.size u4).alloc (Nat.le_refl _) (.cells #[.slice Ax m cx] 53)).mono hb4.size)
      have O4 := Lib.hid (O3.out.keep kb)
      have S4 := Lib.hid (S3.out.keep kb)
      have B4 := Lib.hid (B3.out.trans (kb.mono B3.out.size))
      have P4 := Lib.hid (OneC.new u4 (.slice Ax m cx) 53)
      have X4 := Lib.hid (hx.keep ((Below.refl u4.heap.size u4).alloc (Nat.le_refl _) (.cells #[.slice Ax m cx] 53)))
      have L34 := Lib.hid hb4.size
      obtain ⟨s4, hs4⟩ : ∃ s, s = (u4.alloc (.cells #[.slice Ax m cx] 53)).heap.size := ⟨_, rfl⟩
      have L45 : Hid (u4.heap.size < s4) := by show _ < _; rw [hs4]; simp
      have HS4 := Lib.hid hs4
      clear O3 S3 B3 q3 hb4 hx kb hs4
      go_wp2_with fail
      refine (HI.out _ _ X4.out.rdg).mono ?_; rintro e u5 ⟨gv, rfl, ho5, hb5⟩
      rw [← HS4.out] at ho5
      have O5 := Lib.hid (O4.out.keep hb5)
      have S5 := Lib.hid (S4.out.keep hb5)
      have P5 := Lib.hid (P4.out.keep hb5)
      have X5 := Lib.hid (X4.out.keep hb5)
      have B5 := Lib.hid (B4.out.trans (hb5.mono B4.out.size))
      have G5 : Hid (OwnIn u5 s4 u5.heap.size gv y0) := OwnIn.of ho5
      clear O4 S4 P4 X4 B4 hb5 ho5
      obtain ⟨s5, hs5⟩ : ∃ s, OwnIn u5 s4 s gv y0 := ⟨_, G5.out⟩
      clear G5
      have G5 := Lib.hid hs5
      clear hs5
      go_wp2_with fail
      refine (eqInt64S_rd _ _ _ y0 G5.out.rd S5.out.rd).mono ?_; rintro e u6 ⟨rfl, q6, h6⟩
      have hb6 : Below u5.heap.size u5 u6 := by rw [h6]; exact below_drewN (Below.refl _ _) q6
      have O6 := Lib.hid (O5.out.keep hb6)
      have S6 := Lib.hid (S5.out.keep hb6)
      have P6 := Lib.hid (P5.out.keep hb6)
      have X6 := Lib.hid (X5.out.keep hb6)
      have G6 := Lib.hid (G5.out.keep hb6)
      have B6 := Lib.hid (B5.out.trans (hb6.mono B5.out.size))
      clear O5 S5 P5 X5 G5 B5 hb6 h6 q6
      go_wp2_with fail
      have t0 : K2 u6.drew w.heap.size u4.heap.size _ _ := K2.drew ⟨O6.out, P6.out⟩
      have S7 := Lib.hid (S6.out.keep (Below.refl _ _).drew)
      have X7 := Lib.hid (X6.out.keep (Below.refl _ _).drew)
      have G7 := Lib.hid (G6.out.keep (Below.refl _ _).drew)
      have B7 := Lib.hid B6.out.drew
      have R7 := Lib.hid (HR0.out.keep B7.out)
      clear O6 S6 P6 X6 G6 B6 
      have qa := t0.all.1
      have qb := t0.all.2
      go_region_held3 (fun w' => w'.cell? ⟨w.heap.size, 0, none⟩ = some (.slice A n c) ∧ w'.cell? ⟨u4.heap.size, 0, none⟩ = some (.slice Ax m cx)) ((first | with_reducible exact K2.all t9 | with_reducible exact K2.all t8 | with_reducible exact K2.all t0 | fail))
        (first
          | (go_at_call 43; refine (toGraph_any _ _ l0 R7.out (by have := HL.out.1; omega) (fun r hr => by have := HL.out.2 r hr; omega)).mono ?_; rintro e u8 ⟨y8, rfl, hy8, hb8⟩; have t8 := K2.keep t0 hb8; have Y8 := Lib.hid hy8; have X8 := Lib.hid (X7.out.keep hb8); have S8 := Lib.hid (S7.out.keep hb8); have G8 := Lib.hid (G7.out.keep hb8); have B8 := Lib.hid (B7.out.trans (hb8.mono B7.out.size)); have qa := t8.all.1; have qb := t8.all.2; clear hb8 hy8)
          | (go_at_call 45; refine (eqGraph_rd _ _ _ l0 X8.out.rdg Y8.out).mono ?_; rintro e u9 ⟨rfl, hb9⟩; have t9 := K2.keep t8 hb9; have B9 := Lib.hid (B8.out.trans (hb9.mono B8.out.size)); have X9 := Lib.hid (X8.out.keep hb9); have S9 := Lib.hid (S8.out.keep hb9); have G9 := Lib.hid (G8.out.keep hb9); have qa := t9.all.1; have qb := t9.all.2; clear hb9)
          | fail)
      all_goals
        have O9 := Lib.hid t9.1
        clear t0 t8 S7 X7 G7 B7 S8 X8 G8 B8 R7 Y8
        go_wp2_with fail
        refine (HM.out _ _ _ _ _ X9.out).mono ?_; rintro e u10 ⟨rfl, -, w10, rfl, hc⟩
        have ka := (Below.refl u9.heap.size u9).alloc (Nat.le_refl _) (.cells #[.slice Ax m cx] 53)
        have B10 := Lib.hid (Gmx.Chg.below (B9.out.trans (ka.mono B9.out.size)) hc (Nat.le_of_lt LW.out))
        have O10 := Lib.hid (Gmx.oneC_chg (O9.out.keep ka) hc (Or.inl LW.out))
        have S10 := Lib.hid (Gmx.ownIn_chg (S9.out.keep ka) hc (Or.inl (Nat.le_refl _)))
        have G10 := Lib.hid (Gmx.ownIn_chg (G9.out.keep ka) hc (Or.inr (Nat.le_of_lt L45.out)))
        clear t9 qa qb ka hc B9 O9 S9 G9 X9
        go_wp2_with fail
        refine (eqInt64S_rd _ _ _ y0 G10.out.rd S10.out.rd).mono ?_; rintro e u11 ⟨rfl, q11, h11⟩
        have hb11 : Below u10.heap.size u10 u11 := by rw [h11]; exact below_drewN (Below.refl _ _) q11
        have O11 := Lib.hid (O10.out.keep hb11)
        have S11 := Lib.hid (S10.out.keep hb11)
        have G11 := Lib.hid (G10.out.keep hb11)
        have B11 := Lib.hid (B10.out.trans (hb11.mono B10.out.size))
        clear O10 S10 G10 B10 hb11 h11 q11
        go_wp2_with fail
        refine (markInt64S_any _ _ _ y0 1 (by omega) (by omega) (by omega) G11.out.1).mono ?_; rintro e u12 ⟨rfl, hm12, hg12, hz12⟩
        have hc := Gmx.Chg.of hg12 hz12 G11.out.2.1
        have hlo : u3.heap.size ≤ s4 := by have h1 := L34.out; have h2 := L45.out; omega
        have B12 := Lib.hid (Gmx.Chg.below B11.out hc (by have h3 := LW.out; omega))
        have O12 := Lib.hid (Gmx.oneC_chg O11.out hc (Or.inl (by have h3 := LW.out; omega)))
        have S12 := Lib.hid (Gmx.ownIn_chg S11.out hc (Or.inl hlo))
        have G12 := Lib.hid (G11.out.marked hm12 hz12)
        clear hm12 hg12 hz12 hc hlo B11 O11 S11 G11
        go_wp2_with fail
        refine (heldInt64S_any _ _ _ y0.length 1 (by omega) (by omega) (by omega) G12.out.1).mono ?_; rintro e u13 ⟨rfl, rfl⟩
        have qa := O12.out.1
        go_wp2_with fail
        refine (toGraph_any _ _ l0 (HR0.out.keep B12.out) (by have := HL.out.1; omega) (fun r hr => by have := HL.out.2 r hr; omega)).mono ?_; rintro e u14 ⟨y, rfl, hy, hb14⟩
        have S14 := Lib.hid (S12.out.keep hb14)
        have G14 := Lib.hid (G12.out.keep hb14)
        have B14 := Lib.hid (B12.out.trans (hb14.mono B12.out.size))
        have Y14 := Lib.hid hy
        clear S12 G12 O12 B12 qa hb14 hy
        go_wp2_with fail
        refine (HI.out _ _ Y14.out).mono ?_; rintro e u15 ⟨hv, rfl, ho15, hb15⟩
        have S15 := Lib.hid (S14.out.keep hb15)
        have G15 := Lib.hid (G14.out.keep hb15)
        have B15 := Lib.hid (B14.out.trans (hb15.mono B14.out.size))
        have H15 := Lib.hid (OwnIn.of ho15)
        clear S14 G14 Y14 B14 hb15 ho15
        go_wp2_with fail
        refine (eqInt64S_rd _ _ _ y0 H15.out.rd S15.out.rd).mono ?_; rintro e u16 ⟨rfl, q16, h16⟩
        have hb16 : Below u15.heap.size u15 u16 := by rw [h16]; exact below_drewN (Below.refl _ _) q16
        have G16 := Lib.hid (G15.out.keep hb16)
        have B16 := Lib.hid (B15.out.trans (hb16.mono B15.out.size))
        clear S15 G15 H15 B15 hb16 h16 q16
        go_wp2_with fail
        refine (heldInt64S_any _ _ _ y0.length 1 (by omega) (by omega) (by omega) G16.out.1).mono ?_; rintro e u17 ⟨rfl, rfl⟩
        go_wp2_with fail
        go_ret
        exact ⟨rfl, B16.out⟩
end Go.Proofs.Ytllkojakeoennab
