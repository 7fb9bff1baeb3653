/- The walk of the law FnExactErrorsBehind. -/
import Derived.Test.YtddlpbpcdjddpaaEbs
import Derived.Test.YtddlpbpcdjddpaaSf
namespace Go.Proofs.Ytddlpbpcdjddpaa
open Go Go.RowKit
set_option linter.unusedVariables false

set_option maxHeartbeats 1600000 in
set_option maxRecDepth 100000 in
theorem law_FnExactErrorsBehind (v0 : Value) (s0 : ByteArray) (l0 : List Int) (k0 : ∀ n ∈ l0, (Lit.int .i64 n).wf = true) (w0 : s0.size ≤ maxLen) (a1 : ByteArray) (w1 : a1.size ≤ maxLen) (w : World) (rm : Rd w v0 l0) :
    Calls Try.prog 3 #[.agg #[v0, .string s0], .string a1] w fun e w' => e = .returned (.bool true) ∧ Below w.heap.size w w' := by
  have hl0 := rd_shp rm
  obtain ⟨n1, hn1⟩ : ∃ n1, n1 = l0.length := ⟨_, rfl⟩
  rw [← hn1] at hl0
  obtain ⟨A1, c1, rfl⟩ := hl0
  have HN1 := Lib.hid hn1
  clear hn1
  have HB0 : Hid (Below w.heap.size w (w.alloc (.cells #[.slice A1 n1 c1, .string s0] 24))) := (Below.refl _ _).alloc (Nat.le_refl _) _
  have HM := Lib.hid (rm.keep HB0.out)
  have HO := Lib.hid (Bk.new w (scV (.slice A1 n1 c1) s0) 24 w.heap.size rfl)
  have s1 : a1.size ≤ 9223372036854775807 := by have := w1; unfold maxLen at this; exact this
  by_cases h1 : a1.size ≤ 1048576
  rotate_left
  · clear k0 w0 rm w1
    go_enter Try.func3, Try.ntmps3
    go_wp2_with fail
    go_ret
    exact ⟨rfl, HB0.out⟩
  have HZ := Lib.hid (fun W hm => szScrambler_any W (.slice A1 n1 c1) l0 s0 hm w0)
  rw [← HN1.out] at HZ
  have hok := @szSc_ok n1 s0.size
  by_cases hz0 : szSc n1 s0.size < 0
  · clear k0 w0 rm hok w1
    generalize szSc n1 s0.size = z at *
    go_enter Try.func3, Try.ntmps3
    go_wp2_with fail
    refine (HZ.out _ HM.out).mono ?_; rintro e u1 ⟨rfl, hb1⟩
    have B1 := Lib.hid (HB0.out.trans (hb1.mono HB0.out.size))
    clear hb1
    go_wp2_with fail
    go_ret
    exact ⟨rfl, B1.out⟩
  · have HL := Lib.hid (hok hz0)
    have hlm : l0.length ≤ 4000000 := by have := HL.out.1; have := HN1.out; omega
    have hb0 := rd_bd (w := w) (v := .slice A1 n1 c1) k0
    clear hok rm k0
    generalize szSc n1 s0.size = z at *
    have HS := Lib.hid (fun (W : World) (vm : Value) (hm : Rd W vm l0) => errors_spec W vm l0 s0 a1 hb0 w0 w1 hm)
    have HI := Lib.hid (fun (W : World) (vm : Value) (hm : Rd W vm l0) => errors_impl W vm l0 s0 a1 hb0 w0 w1 hm)
    have HT := Lib.hid (fun (W : World) (vm : Value) (hm : Rd W vm l0) => toScrambler_any W vm l0 s0 hm hlm)
    clear hlm hb0 w0 w1
    generalize hv0 : erV l0 s0.data.toList a1.data.toList = y0 at HS HI
    clear hv0
    generalize hv1 : scbOk l0 s0.data.toList a1.data.toList = y1 at HS HI
    clear hv1
    cases y1
    all_goals
      go_enter Try.func3, Try.ntmps3
      go_wp2_with fail
      refine (HZ.out _ HM.out).mono ?_; rintro e u1 ⟨rfl, hb1⟩
      have B1 := Lib.hid (HB0.out.trans (hb1.mono HB0.out.size))
      have M_1 := Lib.hid (HM.out.keep hb1)
      have O_1 := Lib.hid (HO.out.keep hb1)
      clear hb1 HB0 HM HO
      obtain ⟨qa0, qa1⟩ := sc_all O_1.out
      go_wp2_with fail
      refine (HT.out _ _ M_1.out).mono ?_; rintro e u2 ⟨ym, rfl, hym, hb2⟩
      have B2 := Lib.hid (B1.out.trans (hb2.mono B1.out.size))
      have M_2 := Lib.hid (M_1.out.keep hb2)
      have O_2 := Lib.hid (O_1.out.keep hb2)
      have Ym_2 := Lib.hid hym
      clear hb2 B1 M_1 O_1 hym
      clear qa0 qa1
      go_wp2_with fail
      refine (HS.out _ _ Ym_2.out).mono ?_; rintro e u3 ⟨rfl, hb3⟩
      have B3 := Lib.hid (B2.out.trans (hb3.mono B2.out.size))
      have M_3 := Lib.hid (M_2.out.keep hb3)
      have O_3 := Lib.hid (O_2.out.keep hb3)
      have Ym_3 := Lib.hid (Ym_2.out.keep hb3)
      clear hb3 B2 M_2 O_2 Ym_2
      obtain ⟨qa0, qa1⟩ := sc_all O_3.out
      clear Ym_3
      go_wp2_with fail
      refine (HT.out _ _ M_3.out).mono ?_; rintro e u4 ⟨xm, rfl, hxm, hb4⟩
      have B4 := Lib.hid (B3.out.trans (hb4.mono B3.out.size))
      have M_4 := Lib.hid (M_3.out.keep hb4)
      have O_4 := Lib.hid (O_3.out.keep hb4)
      have Xm_4 := Lib.hid hxm
      clear hb4 B3 M_3 O_3 hxm
      clear qa0 qa1
      obtain ⟨A3, n3, c3, rfl⟩ : ∃ A n c, xm = .slice A n c := by obtain ⟨A, c, e⟩ := rd_shp Xm_4.out; exact ⟨A, _, c, e⟩
      have kb := (Below.refl u4.heap.size u4).alloc (Nat.le_refl _) (.cells #[.slice A3 n3 c3, .string s0] 28)
      have bx := Bk.new u4 (scV (.slice A3 n3 c3) s0) 28 u4.heap.size rfl
      have BB := Lib.hid (B4.out.trans (kb.mono B4.out.size))
      have M_b := Lib.hid (M_4.out.keep kb)
      have O_b := Lib.hid (O_4.out.keep kb)
      have Xm_b := Lib.hid (Xm_4.out.keep kb)
      have X_b := Lib.hid bx
      clear kb bx B4 M_4 O_4 Xm_4
      obtain ⟨qb0, qb1⟩ := sc_all X_b.out
      go_wp2_with fail
      refine (HI.out _ _ Xm_b.out).mono ?_; rintro e u5 ⟨rfl, hb5⟩
      have B5 := Lib.hid (BB.out.trans (hb5.mono BB.out.size))
      have M_5 := Lib.hid (M_b.out.keep hb5)
      have O_5 := Lib.hid (O_b.out.keep hb5)
      have Xm_5 := Lib.hid (Xm_b.out.keep hb5)
      have X_5 := Lib.hid (X_b.out.keep hb5)
      clear hb5 BB M_b O_b Xm_b X_b
      clear qb0 qb1
      go_wp2_with fail
      have t0 := KS.drew ⟨O_5.out, X_5.out⟩
      have M_6 := Lib.hid (M_5.out.keep (Below.refl _ _).drew)
      have Xm_6 := Lib.hid (Xm_5.out.keep (Below.refl _ _).drew)
      have B6 := Lib.hid (B5.out.drew)
      obtain ⟨qa0, qa1, qb0, qb1⟩ := KS.all t0
      go_region_held3 (fun w' => w'.cell? ⟨w.heap.size, 0, none⟩ = some (.slice A1 n1 c1) ∧ w'.cell? ⟨w.heap.size, 1, none⟩ = some (.string s0) ∧ w'.cell? ⟨u4.heap.size, 0, none⟩ = some (.slice A3 n3 c3) ∧ w'.cell? ⟨u4.heap.size, 1, none⟩ = some (.string s0)) ((first | with_reducible exact KS.all t8 | with_reducible exact KS.all t7 | with_reducible exact KS.all t0 | fail))
        (first
          | (go_at_call 12; refine (HT.out _ _ M_6.out).mono ?_; rintro e u7 ⟨zm, rfl, hzm, hb7⟩; have t7 := KS.keep t0 hb7; have Zm := Lib.hid hzm; have Xm_7 := Lib.hid (Xm_6.out.keep hb7); have B7 := Lib.hid (B6.out.trans (hb7.mono B6.out.size)); obtain ⟨qa0, qa1, qb0, qb1⟩ := KS.all t7; clear hb7 hzm)
          | (go_at_call 14; refine (eqScrambler_rd _ _ _ l0 s0 Xm_7.out Zm.out).mono ?_; rintro e u8 ⟨rfl, hb8⟩; have t8 := KS.keep t7 hb8; have B8 := Lib.hid (B7.out.trans (hb8.mono B7.out.size)); obtain ⟨qa0, qa1, qb0, qb1⟩ := KS.all t8; clear hb8)
          | fail)
      all_goals go_wp2_with fail
      all_goals go_ret
      all_goals exact ⟨rfl, B8.out⟩
end Go.Proofs.Ytddlpbpcdjddpaa
