/- The model's sum of a list of valid fractions. -/
import Derived.Test.YtnpigefbdadjfaaSfB
namespace Go.Proofs.Ytnpigefbdadjfaa
open Go Go.RowKit
set_option linter.unusedVariables false

def sfN (l : List (Int × Int)) : Int := match sfS l (0, 1) with | some s => s.1 | none => 0
def sfD (l : List (Int × Int)) : Int := match sfS l (0, 1) with | some s => s.2 | none => 0
def sfO (l : List (Int × Int)) : Bool := (sfS l (0, 1)).isSome
theorem faB_at {l : List (Int × Int)} (h : faB l = true) {k : Nat} (hk : k < l.length) : fIs l[k].1 l[k].2 = true := by
  unfold faB at h
  exact List.all_eq_true.1 h _ (List.getElem_mem hk)
theorem Gs.c0 {w W : World} {X Y : Value} {L : List (Nat × Value × Value)} (h : Gs w W X Y L) : W.cell? ⟨w.heap.size + 1, 0, none⟩ = some X := h.1.2.1.1.1
theorem Gs.c1 {w W : World} {X Y : Value} {L : List (Nat × Value × Value)} (h : Gs w W X Y L) : W.cell? ⟨w.heap.size + 1, 1, none⟩ = some Y := h.1.2.1.1.2.1
theorem Gs.bl {w W : World} {X Y : Value} {L : List (Nat × Value × Value)} (h : Gs w W X Y L) : Below w.heap.size w W := h.1.2.2
theorem Gs.hd {w W : World} {X Y : Value} {b : Nat} {x y : Value} {L : List (Nat × Value × Value)} (h : Gs w W X Y ((b, x, y) :: L)) : W.cell? ⟨b, 0, none⟩ = some x ∧ W.cell? ⟨b, 1, none⟩ = some y ∧ W.frozen? ⟨b, 0, none⟩ = false ∧ W.frozen? ⟨b, 1, none⟩ = false := by
  have := (h.2 (b, x, y) (by simp)).2
  exact ⟨this.1.1, this.1.2.1, this.2.1, this.2.2⟩
theorem Gs.fz {w W : World} {X Y : Value} {L : List (Nat × Value × Value)} (h : Gs w W X Y L) : W.frozen? ⟨w.heap.size + 1, 0, none⟩ = false ∧ W.frozen? ⟨w.heap.size + 1, 1, none⟩ = false ∧ W.frozen? ⟨w.heap.size, 0, none⟩ = false ∧ W.frozen? ⟨w.heap.size, 1, none⟩ = false ∧ W.cell? ⟨w.heap.size, 0, none⟩ = some (.int .i64 0) ∧ W.cell? ⟨w.heap.size, 1, none⟩ = some (.int .i64 0) := ⟨h.1.2.1.2.1, h.1.2.1.2.2, h.1.1.2.1, h.1.1.2.2, h.1.1.1.1, h.1.1.1.2.1⟩
theorem sf_some {l : List (Int × Int)} {s : Int × Int} (h : sfS l (0, 1) = some s) : sfN l = s.1 ∧ sfD l = s.2 ∧ sfO l = true := by unfold sfN sfD sfO; rw [h]; exact ⟨rfl, rfl, rfl⟩
theorem sf_none {l : List (Int × Int)} (h : sfS l (0, 1) = none) : sfN l = 0 ∧ sfD l = 0 ∧ sfO l = false := by unfold sfN sfD sfO; rw [h]; exact ⟨rfl, rfl, rfl⟩
set_option maxRecDepth 100000 in
set_option maxHeartbeats 4000000 in
theorem l01FSum_any (w : World) (v : Value) (l : List (Int × Int)) (h : RdF w v l) (hl : l.length ≤ 1000) (hall : faB l = true) :
    Calls Try.prog 64 #[v] w fun e w' => e = .returned (.tuple #[.agg #[.int .i64 (sfN l), .int .i64 (sfD l)], .bool (sfO l)]) ∧ Below w.heap.size w w' := by
  obtain ⟨A, n, c, rfl, hn, r⟩ := h
  rw [hn] at hl
  have HR := Lib.hid r
  have HN := Lib.hid hn
  have HALL := Lib.hid hall
  have G0 := Lib.hid (Gs.first w 56 56 (.int .i64 0) (.int .i64 1))
  clear r hn hall
  go_enter Try.func64, Try.ntmps64
  go_wp2_with fail
  go_loopw [5] (fun i wr => ∃ (k : Nat) (s : Int × Int), k ≤ n ∧ i = .int .i64 k ∧ Gs w wr (.int .i64 s.1) (.int .i64 s.2) [] ∧ fIs s.1 s.2 = true ∧ sfS (l.drop k) s = sfS l (0, 1)) (fun i _ => n - (intOf i).toNat)
  case atStart => exact ⟨0, (0, 1), Nat.zero_le _, rfl, G0.out, by decide, rfl⟩
  case round =>
    obtain ⟨k, ⟨sx, sy⟩, hk, rfl, hg, hs, he⟩ := hrel
    simp only at hg hs he
    by_cases hlt : k < n
    · obtain ⟨b, o, rfl, hb0, hc⟩ := HR.out (by omega)
      have hkl : k < l.length := by have := HN.out; omega
      obtain ⟨d0, d1⟩ := hc k hkl
      have HD : Hid (∀ W, Below w.heap.size w W → W.cell? ⟨b, o + k * 2, none⟩ = some (.int .i64 l[k].1) ∧ W.cell? ⟨b, o + k * 2 + 1, none⟩ = some (.int .i64 l[k].2)) := fun W hb => ⟨(hb.cell (p := ⟨b, o + k * 2, none⟩) hb0).trans d0, (hb.cell (p := ⟨b, o + k * 2 + 1, none⟩) hb0).trans d1⟩
      have hv := faB_at HALL.out hkl
      have hst : sfS (l.drop k) (sx, sy) = if agB sx l[k].1 sy l[k].2 = true then sfS (l.drop (k + 1)) (agN sx l[k].1 sy l[k].2, agD sx l[k].1 sy l[k].2) else none := by
        rw [List.drop_eq_getElem_cons hkl, sfS]
      rw [he] at hst
      have HST := Lib.hid hst
      have HV : Hid (agB sx l[k].1 sy l[k].2 = true → fIs (agN sx l[k].1 sy l[k].2) (agD sx l[k].1 sy l[k].2) = true) := fun h => ag_valid h
      have HC := Lib.hid (fun W => add_valid sx sy l[k].1 l[k].2 W hs hv)
      obtain ⟨d0, d1⟩ := HD.out wr hg.1.2.2
      clear hc hv hst hs he
      generalize agN sx l[k].1 sy l[k].2 = X at *
      generalize agD sx l[k].1 sy l[k].2 = Y at *
      generalize agB sx l[k].1 sy l[k].2 = Z at *
      generalize l[k].1 = x at *
      generalize l[k].2 = y at *
      have i1 : (0 : Int) ≤ (k : Int) := by omega
      have i2 : (k : Int) < (n : Int) := by omega
      have td := hg.drew
      have n0 := (hg.new (.int .i64 0) (.int .i64 0) 56).drew
      have s0 := hg.c0
      have s1 := hg.c1
      go_wp2_with fail
      go_cut [6, 7] from 9 to 27 (fun s6 s7 w' => ∃ bb, s6 = .pointer (some ⟨bb, 0, none⟩) ∧ s7 = .bool Z ∧ Gs w w' (.int .i64 sx) (.int .i64 sy) [(bb, .int .i64 X, .int .i64 Y)])
      case first =>
        go_region_held3 (fun w' => w'.cell? ⟨w.heap.size + 1, 0, none⟩ = some (.int .i64 sx) ∧ w'.cell? ⟨w.heap.size + 1, 1, none⟩ = some (.int .i64 sy) ∧ w'.cell? ⟨b, o + k * 2, none⟩ = some (.int .i64 x) ∧ w'.cell? ⟨b, o + k * 2 + 1, none⟩ = some (.int .i64 y)) ((first | with_reducible assumption | with_reducible exact ⟨Gs.c0 t8, Gs.c1 t8, Hid.out HD _ (Gs.bl t8)⟩ | with_reducible exact ⟨Gs.c0 td, Gs.c1 td, Hid.out HD _ (Gs.bl td)⟩ | with_reducible exact ⟨Gs.c0 n0, Gs.c1 n0, Hid.out HD _ (Gs.bl n0)⟩ | with_reducible exact ⟨Gs.c0 (Gs.new t8 _ _ _), Gs.c1 (Gs.new t8 _ _ _), Hid.out HD _ (Gs.bl (Gs.new t8 _ _ _))⟩ | with_reducible exact ⟨Gs.c0 (Gs.set t8 _ _), Gs.c1 (Gs.set t8 _ _), Hid.out HD _ (Gs.bl (Gs.set t8 _ _))⟩ | fail))
          (first
            | (go_at_call 84; refine (HC.out _).mono ?_; rintro e w8 ⟨rfl, hb8⟩; (first | have t8 := Gs.keep td hb8 | (have t8 := Gs.keep n0 hb8; obtain ⟨x0, x1, x2, x3⟩ := Gs.hd t8)))
            | fail)
        all_goals go_wp2_with fail
        all_goals first
          | (go_meet; case rel => exact ⟨_, rfl, rfl, t8.new _ _ _⟩)
          | (go_meet; case rel => exact ⟨_, rfl, rfl, t8.set _ _⟩)
      case rest =>
        obtain ⟨bb, rfl, rfl, t0⟩ := hcut
        clear td n0 hg s0 s1 d0 d1
        obtain ⟨x0, x1, x2, x3⟩ := t0.hd
        obtain ⟨z0, z1, z2, z3, z4, z5⟩ := t0.fz
        have s0 := t0.c0
        have s1 := t0.c1
        have TT := Lib.hid t0
        cases Z
        · obtain ⟨e1, e2, e3⟩ := sf_none (HST.out.trans (if_neg (by decide)))
          obtain ⟨p0, p1, p2⟩ := Gs.res t0 (.int .i64 0) (.int .i64 0)
          clear t0
          go_wp2_with fail
          refine bodyPost_ret (v := .tuple #[.agg #[.int .i64 0, .int .i64 0], .bool false]) (by simp [results, Try.results64, go_sem, p0, p1]) rfl ⟨by rw [e1, e2, e3], ?_⟩
          exact p2
        · have hv := Lib.hid (HV.out rfl)
          have hst := Lib.hid (HST.out.trans (if_pos rfl)).symm
          clear t0
          go_wp2_with fail
          go_roundw
          case rel => exact ⟨k + 1, (X, Y), by omega, by go_num, TT.out.sum _ _, hv.out, hst.out⟩
          case measure => simp [intOf]; omega
    · obtain rfl : k = n := by omega
      have hfin : sfS l (0, 1) = some (sx, sy) := by
        rw [← he, List.drop_of_length_le (by have := HN.out; omega)]; rfl
      obtain ⟨e1, e2, e3⟩ := sf_some hfin
      simp only at e1 e2
      obtain ⟨p0, p1, p2⟩ := Gs.res hg (.int .i64 sx) (.int .i64 sy)
      obtain ⟨z0, z1, z2, z3, z4, z5⟩ := hg.fz
      have s0 := hg.c0
      have s1 := hg.c1
      clear hg he hfin
      go_wp2_with fail
      refine bodyPost_ret (v := .tuple #[.agg #[.int .i64 sx, .int .i64 sy], .bool true]) (by simp [results, Try.results64, go_sem, p0, p1]) rfl ⟨by rw [e1, e2, e3], ?_⟩
      exact p2
end Go.Proofs.Ytnpigefbdadjfaa
