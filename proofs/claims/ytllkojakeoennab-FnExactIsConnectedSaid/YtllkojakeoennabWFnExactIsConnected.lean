/- The walk of the law FnExactIsConnected. -/
import Derived.Test.YtllkojakeoennabIcn
import Derived.Test.YtllkojakeoennabGv
namespace Go.Proofs.Ytllkojakeoennab
open Go Go.RowKit
set_option linter.unusedVariables false

set_option maxHeartbeats 1600000 in
set_option maxRecDepth 100000 in
theorem law_FnExactIsConnected (v0 : Value) (l0 : List (List Int)) (k0 : ∀ r ∈ l0, ∀ n ∈ r, (Lit.int .i64 n).wf = true) (w : World) (r0 : RdG w v0 l0) :
    Calls Try.prog 11 #[.agg #[v0]] w fun e w' => e = .returned (.bool true) ∧ Below w.heap.size w w' := by
  obtain ⟨A, n, c, rfl⟩ := rdg_sh r0
  have HR := Lib.hid (r0.keep ((Below.refl _ _).alloc (Nat.le_refl _) (.cells #[.slice A n c] 50)))
  have HO := Lib.hid (OneC.new w (.slice A n c) 50)
  have HB0 : Hid (Below w.heap.size w (w.alloc (.cells #[.slice A n c] 50))) := (Below.refl _ _).alloc (Nat.le_refl _) _
  clear r0 k0
  have hz := fun h => szG_ok l0 h
  by_cases hz0 : szG l0 < 0
  · clear hz
    have HZ := Lib.hid (fun W v h => szGraph_any W v l0 h)
    generalize szG l0 = z at *
    go_enter Try.func11, Try.ntmps11
    go_wp2_with fail
    refine (HZ.out _ _ HR.out).mono ?_; rintro e u1 ⟨rfl, hb1⟩
    have B1 := Lib.hid (HB0.out.trans (hb1.mono HB0.out.size))
    clear hb1
    go_wp2_with fail
    go_ret
    exact ⟨rfl, B1.out⟩
  · have HL := Lib.hid (hz (by omega))
    clear hz
    have HZ := Lib.hid (fun W v h => szGraph_any W v l0 h)
    generalize szG l0 = z at *
    have HS := Lib.hid (fun (W : World) (v : Value) (h : RdG W v l0) => isConnected_spec W v l0 h)
    have HI := Lib.hid (fun (W : World) (v : Value) (h : RdG W v l0) => isConnected_impl W v l0 h)
    generalize hv0 : conn l0 = y0 at HS HI
    clear hv0
    cases y0
    all_goals
      go_enter Try.func11, Try.ntmps11
      go_wp2_with fail
      refine (HZ.out _ _ HR.out).mono ?_; rintro e u1 ⟨rfl, hb1⟩
      have B1 := Lib.hid (HB0.out.trans (hb1.mono HB0.out.size))
      have R1 := Lib.hid (HR.out.keep hb1)
      have O1 := Lib.hid (HO.out.keep hb1)
      have q1 := O1.out.1
      clear hb1
      go_wp2_with fail
      refine (toGraph_any _ _ l0 R1.out (by have := HL.out.1; omega) (fun r hr => by have := HL.out.2 r hr; omega)).mono ?_; rintro e u2 ⟨y, rfl, hy, hb2⟩
      have B2 := Lib.hid (B1.out.trans (hb2.mono B1.out.size))
      have R2 := Lib.hid (R1.out.keep hb2)
      have O2 := Lib.hid (O1.out.keep hb2)
      have Y2 := Lib.hid hy
      clear hb2 q1 hy
      go_wp2_with fail
      refine (HS.out _ _ Y2.out).mono ?_; rintro e u3 ⟨rfl, hb3⟩
      have B3 := Lib.hid (B2.out.trans (hb3.mono B2.out.size))
      have R3 := Lib.hid (R2.out.keep hb3)
      have O3 := Lib.hid (O2.out.keep hb3)
      have q3 := O3.out.1
      clear hb3 Y2
      go_wp2_with fail
      refine (toGraph_any _ _ l0 R3.out (by have := HL.out.1; omega) (fun r hr => by have := HL.out.2 r hr; omega)).mono ?_; rintro e u4 ⟨x, rfl, hx, hb4⟩
      obtain ⟨Ax, m, cx, rfl⟩ := rdg_sh hx
      have hB4 := B3.out.trans (hb4.mono B3.out.size)
      have nb := OneC.new u4 (.slice Ax m cx) 53
      have kb := (Below.refl u4.heap.size u4).alloc (Nat.le_refl _) (.cells #[.slice Ax m cx] 53)
      have B4 := Lib.hid (hB4.trans (kb.mono hB4.size))
      have R4 := Lib.hid ((R3.out.keep hb4).keep kb)
      have K4 := Lib.hid (show K2 (u4.alloc (.cells #[.slice Ax m cx] 53)) w.heap.size u4.heap.size _ _ from ⟨(O3.out.keep hb4).keep kb, nb⟩)
      have X4 := Lib.hid (hx.keep kb)
      clear hb4 q3 hx nb kb hB4
      go_wp2_with fail
      refine (HI.out _ _ X4.out).mono ?_; rintro e u5 ⟨rfl, hb5⟩
      have B5 := Lib.hid (B4.out.trans (hb5.mono B4.out.size))
      have R5 := Lib.hid (R4.out.keep hb5)
      have K5 := Lib.hid (K4.out.keep hb5)
      have X5 := Lib.hid (X4.out.keep hb5)
      clear hb5
      go_wp2_with fail
      have t0 := K5.out.drew
      have R6 := Lib.hid (R5.out.keep (Below.refl _ _).drew)
      have X6 := Lib.hid (X5.out.keep (Below.refl _ _).drew)
      have B6 := Lib.hid (B5.out.drew)
      have qa := t0.all.1
      have qb := t0.all.2
      go_region_held3 (fun w' => w'.cell? ⟨w.heap.size, 0, none⟩ = some (.slice A n c) ∧ w'.cell? ⟨u4.heap.size, 0, none⟩ = some (.slice Ax m cx)) ((first | with_reducible exact K2.all t8 | with_reducible exact K2.all t7 | with_reducible exact K2.all t0 | fail))
        (first
          | (go_at_call 43; refine (toGraph_any _ _ l0 R6.out (by have := HL.out.1; omega) (fun r hr => by have := HL.out.2 r hr; omega)).mono ?_; rintro e u7 ⟨y7, rfl, hy7, hb7⟩; have t7 := K2.keep t0 hb7; have Y7 := Lib.hid hy7; have X7 := Lib.hid (X6.out.keep hb7); have B7 := Lib.hid (B6.out.trans (hb7.mono B6.out.size)); have qa := t7.all.1; have qb := t7.all.2; clear hb7 hy7)
          | (go_at_call 45; refine (eqGraph_rd _ _ _ l0 X7.out Y7.out).mono ?_; rintro e u8 ⟨rfl, hb8⟩; have t8 := K2.keep t7 hb8; have B8 := Lib.hid (B7.out.trans (hb8.mono B7.out.size)); have qa := t8.all.1; have qb := t8.all.2; clear hb8)
          | fail)
      all_goals go_wp2_with fail
      all_goals go_ret
      all_goals exact ⟨rfl, B8.out⟩
end Go.Proofs.Ytllkojakeoennab
