/- Both SumFractions. -/
import Derived.Test.YtnpigefbdadjfaaSfC
namespace Go.Proofs.Ytnpigefbdadjfaa
open Go Go.RowKit
set_option linter.unusedVariables false

def suN (l : List (Int × Int)) : Int := if l.length ≤ 64 then sfN l else 0
def suD (l : List (Int × Int)) : Int := if l.length ≤ 64 then sfD l else 0
def suO (l : List (Int × Int)) : Bool := if l.length ≤ 64 then sfO l else false
set_option maxRecDepth 100000 in
set_option maxHeartbeats 4000000 in
theorem sum_impl (w : World) (v : Value) (l : List (Int × Int)) (h : RdF w v l) (hl : l.length ≤ 100000000) (hw : ∀ x ∈ l, -9223372036854775808 ≤ x.1 ∧ x.1 ≤ 9223372036854775807) :
    Calls Try.prog 35 #[v] w fun e w' => e = .returned (.tuple #[.agg #[.int .i64 (suN l), .int .i64 (suD l)], .bool (suO l)]) ∧ Below w.heap.size w w' := by
  obtain ⟨A, n, c, rfl, hn, r⟩ := h
  have HR := Lib.hid r
  have HN := Lib.hid hn
  have HWL := Lib.hid hw
  have G0 := Lib.hid (Gs.first w 56 56 (.int .i64 0) (.int .i64 1))
  by_cases h64 : n ≤ 64
  · have e1 : suN l = sfN l := if_pos (by omega)
    have e2 : suD l = sfD l := if_pos (by omega)
    have e3 : suO l = sfO l := if_pos (by omega)
    rw [e1, e2, e3]
    clear e1 e2 e3 r hn hw hl
    go_enter Try.func35, Try.ntmps35
    go_wp2_with fail
    go_loopw [16] (fun i wr => ∃ (k : Nat) (s : Int × Int), k ≤ n ∧ i = .int .i64 k ∧ Gs w wr (.int .i64 s.1) (.int .i64 s.2) [] ∧ fIs s.1 s.2 = true ∧ sfS (l.drop k) s = sfS l (0, 1)) (fun i _ => n - (intOf i).toNat)
    case atStart => exact ⟨0, (0, 1), Nat.zero_le _, rfl, G0.out, by decide, rfl⟩
    case round =>
      obtain ⟨k, ⟨sx, sy⟩, hk, rfl, hg, hs, he⟩ := hrel
      simp only at hg hs he
      by_cases hlt : k < n
      · obtain ⟨b, o, rfl, hb0, hc⟩ := HR.out (by omega)
        have hkl : k < l.length := by have := HN.out; omega
        obtain ⟨d0, d1⟩ := hc k hkl
        have d0 := (hg.bl.cell (p := ⟨b, o + k * 2, none⟩) hb0).trans d0
        have d1 := (hg.bl.cell (p := ⟨b, o + k * 2 + 1, none⟩) hb0).trans d1
        have hv := HWL.out _ (List.getElem_mem hkl)
        obtain ⟨-, q1, q2⟩ := fIs_bd hs
        have hst : sfS (l.drop k) (sx, sy) = if agB sx l[k].1 sy l[k].2 = true then sfS (l.drop (k + 1)) (agN sx l[k].1 sy l[k].2, agD sx l[k].1 sy l[k].2) else none := by
          rw [List.drop_eq_getElem_cons hkl, sfS]
        rw [he] at hst
        have HST := Lib.hid hst
        have HV : Hid (agB sx l[k].1 sy l[k].2 = true → fIs (agN sx l[k].1 sy l[k].2) (agD sx l[k].1 sy l[k].2) = true) := fun h => ag_valid h
        have HC := Lib.hid (fun W => add_impl sx sy l[k].1 l[k].2 W (by omega) (by omega) hv.1 hv.2)
        clear hc hv hst hs he q1 q2
        generalize agN sx l[k].1 sy l[k].2 = X at *
        generalize agD sx l[k].1 sy l[k].2 = Y at *
        generalize agB sx l[k].1 sy l[k].2 = Z at *
        generalize l[k].1 = x at *
        generalize l[k].2 = y at *
        have i1 : (0 : Int) ≤ (k : Int) := by omega
        have i2 : (k : Int) < (n : Int) := by omega
        have t6 := hg.new (.int .i64 x) (.int .i64 y) 56
        obtain ⟨x0, x1, x2, x3⟩ := t6.hd
        have s0 := t6.c0
        have s1 := t6.c1
        go_wp2_with fail
        refine (HC.out _).mono ?_; rintro e w8 ⟨rfl, hb8⟩
        have t8 := (t6.keep hb8).new (.int .i64 X) (.int .i64 Y) 56
        clear t6 hb8 x0 x1 x2 x3 s0 s1 hg
        obtain ⟨x0, x1, x2, x3⟩ := t8.hd
        obtain ⟨z0, z1, z2, z3, z4, z5⟩ := t8.fz
        have s0 := t8.c0
        have s1 := t8.c1
        have TT := Lib.hid t8
        cases Z
        · obtain ⟨e1, e2, e3⟩ := sf_none (HST.out.trans (if_neg (by decide)))
          obtain ⟨p0, p1, p2⟩ := Gs.res t8 (.int .i64 0) (.int .i64 0)
          clear t8
          go_wp2_with fail
          refine bodyPost_ret (v := .tuple #[.agg #[.int .i64 0, .int .i64 0], .bool false]) (by simp [results, Try.results35, go_sem, p0, p1]) rfl ⟨by rw [e1, e2, e3], ?_⟩
          exact p2
        · have hv := Lib.hid (HV.out rfl)
          have hst := Lib.hid (HST.out.trans (if_pos rfl)).symm
          clear t8
          go_wp2_with fail
          go_roundw
          case rel => exact ⟨k + 1, (X, Y), by omega, by go_num, TT.out.sum _ _, hv.out, hst.out⟩
          case measure => simp [intOf]; omega
      · obtain rfl : k = n := by omega
        have hfin : sfS l (0, 1) = some (sx, sy) := by
          rw [← he, List.drop_of_length_le (by have := HN.out; omega)]; rfl
        obtain ⟨e1, e2, e3⟩ := sf_some hfin
        simp only at e1 e2
        obtain ⟨p0, p1, p2⟩ := Gs.res hg (.int .i64 sx) (.int .i64 sy)
        obtain ⟨z0, z1, z2, z3, z4, z5⟩ := hg.fz
        have s0 := hg.c0
        have s1 := hg.c1
        clear hg he hfin
        go_wp2_with fail
        refine bodyPost_ret (v := .tuple #[.agg #[.int .i64 sx, .int .i64 sy], .bool true]) (by simp [results, Try.results35, go_sem, p0, p1]) rfl ⟨by rw [e1, e2, e3], ?_⟩
        exact p2
  · have e1 : suN l = 0 := if_neg (by omega)
    have e2 : suD l = 0 := if_neg (by omega)
    have e3 : suO l = false := if_neg (by omega)
    rw [e1, e2, e3]
    have hgt : (64 : Int) < (n : Int) := by omega
    clear r hn hw hl e1 e2 e3 HR HWL G0
    go_enter Try.func35, Try.ntmps35
    go_wp2_with fail
    simp [bodyPost, results, Try.results35, go_sem]
    exact (Below.refl _ _).alloc (Nat.le_refl _) _
end Go.Proofs.Ytnpigefbdadjfaa
