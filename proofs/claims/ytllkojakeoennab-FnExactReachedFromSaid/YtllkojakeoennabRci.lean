/- The program's reachedFrom. -/
import Derived.Test.YtllkojakeoennabRch
import Derived.Test.YtllkojakeoennabSrt
import Derived.Test.YtllkojakeoennabEsa
namespace Go.Proofs.Ytllkojakeoennab
open Go Go.RowKit
set_option linter.unusedVariables false

theorem tab_cells {w : World} {b : Nat} {g : List (List Int)} (h : w.heap[b]? = some (.cells (tabL g.length g).toArray 113 (0, 0))) {x : Int} (hx : inS g.length x) :
    w.cell? ⟨b, 1 + x.toNat * 2, none⟩ = some (.int .i64 (eG g x 0)) ∧ w.cell? ⟨b, 1 + x.toNat * 2 + 1, none⟩ = some (.int .i64 (eG g x 1)) := by
  have hk : x.toNat < g.length := by have := hx.2; have := hx.1; omega
  obtain ⟨e0, e1⟩ := tabL_at g.length g x.toNat hk
  unfold eG
  rw [show g.getD x.toNat [] = g[x.toNat] from by simp [List.getD, hk]]
  exact ⟨(cell_of_row w b (1 + x.toNat * 2) _ _ _ h).trans e0, (cell_of_row w b (1 + x.toNat * 2 + 1) _ _ _ h).trans e1⟩

set_option maxRecDepth 100000 in
set_option maxHeartbeats 4000000 in
theorem reachedFrom_any (w : World) (g : List (List Int)) (x : Int) (hg : isG g = true) (hx : inS g.length x) :
    Calls Try.prog 100 #[.agg (tabL g.length g).toArray, .int .i64 x] w fun e w' => ∃ u, e = .returned u ∧ Own w' w.heap.size u (reachM g x g.length) ∧ Below w.heap.size w w' := by
  obtain ⟨i0, hi, hz0, hz1, hz2⟩ := info_parts Try.infoInt
  have HG := Lib.hid hg
  have HX := Lib.hid hx
  have HGL := Lib.hid (isG_le hg)
  clear hg hx
  obtain ⟨w1, hw1⟩ : ∃ w1, w1 = (w.alloc (.cells (tabL g.length g).toArray 113)).alloc (.cells #[.int .i64 x] 2) := ⟨_, rfl⟩
  have HW1 := Lib.hid hw1
  have HT1 : Hid (w1.heap[w.heap.size]? = some (.cells (tabL g.length g).toArray 113 (0, 0))) := by
    show _ = _
    rw [hw1, Below.heap_alloc _ _ _ (by simp)]
    exact heap_alloc_at w _ _ rfl
  have HO1 : Hid (Own w1 (w.heap.size + 1) (.slice (some ⟨w.heap.size + 1, 0, none⟩) 1 1) [x]) := by
    show Own _ _ _ _
    rw [hw1]
    have e : (w.alloc (.cells (tabL g.length g).toArray 113)).heap.size = w.heap.size + 1 := by simp
    rw [← e]
    exact own_one _ x
  have HB1 : Hid (Below w.heap.size w w1) := by show Below _ _ _; rw [hw1]; exact ((Below.refl _ _).alloc (Nat.le_refl _) _).alloc (by simp) _
  have HZ1 : Hid (w.heap.size + 1 ≤ w1.heap.size) := by show _ ≤ _; rw [hw1]; simp
  clear hw1
  generalize htab : (tabL g.length g).toArray = tab at *
  go_enter Try.func100, Try.ntmps100
  go_wp2_with fail
  rw [← HW1.out]
  go_loopw [5, 6] (fun u i wr => ∃ (k : Nat) (L : List Int), k ≤ L.length ∧ i = .int .i64 k ∧ Wk g x L k 0 ∧ Own wr (w.heap.size + 1) u L ∧ wr.heap[w.heap.size]? = some (.cells tab 113 (0, 0)) ∧ Below w.heap.size w wr ∧ w.heap.size + 1 ≤ wr.heap.size) (fun _ i _ => g.length - (intOf i).toNat)
  case atStart => exact ⟨0, [x], Nat.zero_le _, rfl, Wk.start HX.out, HO1.out, HT1.out, HB1.out, HZ1.out⟩
  case round =>
    obtain ⟨k, L, hk, rfl, hwk, hown, htb, hbw, hsz⟩ := hrel
    have WK := Lib.hid hwk
    have HO := Lib.hid hown
    have HT := Lib.hid htb
    have HB := Lib.hid hbw
    have HZ := Lib.hid hsz
    have hLn := hwk.len
    have hgl := HGL.out
    clear hwk hown htb hbw hsz HO1 HT1 HB1 HZ1
    by_cases hlt : k < L.length
    · obtain ⟨gb, cc, rfl, -⟩ := own_some HO.out (by omega)
      have hk0 : (0 : Int) ≤ (k : Int) := by omega
      have hk1 : (k : Int) < (L.length : Int) := by omega
      obtain ⟨z, hz⟩ : ∃ z, L[k]? = some z := ⟨_, List.getElem?_eq_getElem hlt⟩
      have hcl := World.ownsRow.cellAt HO.out k (by omega)
      rw [show (intVals L)[k]? = some (.int .i64 z) from by simp [intVals, hz]] at hcl
      have HZE0 := Lib.hid hz
      have hzin : inS g.length z := WK.out.ins z (List.mem_of_getElem? hz)
      have HZI := Lib.hid hzin
      obtain ⟨zz, rfl⟩ : ∃ zz : Nat, z = (zz : Int) := ⟨z.toNat, by have := hzin.1; omega⟩
      have y0' : (0 : Int) ≤ (zz : Int) := by omega
      have y1' : (zz : Int) < 12 := by have := hzin.2; omega
      have htb := HT.out
      rw [← htab] at htb
      obtain ⟨c0, c1⟩ := tab_cells htb hzin
      rw [Int.toNat_natCast] at c0 c1
      obtain ⟨y0, hy0⟩ : ∃ y, eG g (zz : Int) 0 = y := ⟨_, rfl⟩
      obtain ⟨y1, hy1⟩ : ∃ y, eG g (zz : Int) 1 = y := ⟨_, rfl⟩
      rw [hy0] at c0
      rw [hy1] at c1
      have E0 := Lib.hid hy0
      have E1 := Lib.hid hy1
      have x0 : ∀ W, (Instr.index 110 (.agg #[.int .i64 y0, .int .i64 y1]) (.int .i64 0)).run Try.prog W = .ok (.int .i64 y0) W := fun _ => by kernel_rfl
      have x1 : ∀ W, (Instr.index 110 (.agg #[.int .i64 y0, .int .i64 y1]) (.int .i64 1)).run Try.prog W = .ok (.int .i64 y1) W := fun _ => by kernel_rfl
      clear hz hzin htb hy0 hy1
      go_wp2_with fail
      generalize hz' : (zz : Int) = z at HZE0 HZI E0 E1
      clear hz'
      go_loopw [5, 24] (fun u i wr => ∃ (b : Nat) (L' : List Int), b ≤ 2 ∧ i = .int .i64 b ∧ L'[k]? = some z ∧ Wk g x L' k b ∧ Own wr (w.heap.size + 1) u L' ∧ wr.heap[w.heap.size]? = some (.cells tab 113 (0, 0)) ∧ Below w.heap.size w wr ∧ w.heap.size + 1 ≤ wr.heap.size) (fun _ i _ => 2 - (intOf i).toNat)
      case atStart => exact ⟨0, L, by decide, rfl, HZE0.out, WK.out, HO.out, HT.out, HB.out, HZ.out⟩
      case round =>
        obtain ⟨b, L', hb, rfl, hze, hwk, hown, htb, hbw, hsz⟩ := hrel
        have HZE := Lib.hid hze
        have WK1 := Lib.hid hwk
        have HO2 := Lib.hid hown
        have HT2 := Lib.hid htb
        have HB2 := Lib.hid hbw
        have HZ2 := Lib.hid hsz
        have hLn' := hwk.len
        have hkl : k < L'.length := (List.getElem?_eq_some_iff.1 hze).1
        clear hze hwk hown htb hbw hsz HZE0 WK HO HT HB HZ c0 c1 hcl
        by_cases hb2 : b = 2
        · subst hb2
          go_wp2_with fail
          go_roundw
          case rel => exact ⟨k + 1, L', by omega, by go_num, WK1.out.next, HO2.out, HT2.out, HB2.out, HZ2.out⟩
          case measure => first | (simp [intOf]; done) | (simp [intOf]; omega)
        · rcases (show b = 0 ∨ b = 1 by omega) with rfl | rfl
          · clear hb hb2
            have HY0 : Hid (eG g z 0 = y0) := E0.out
            have hbd := eG_bd HG.out HZI.out (b := 0) (by decide)
            rw [E0.out] at hbd
            obtain ⟨d0, d1⟩ := hbd
            have hn1 : IntKind.i64.wrap ((0 : Int) + 1) = (0 : Int) + 1 := by decide
            by_cases hy : y0 = -1
            · have hq : (y0 != -1) = false := by rw [hy]; decide
              have WK2 := Lib.hid (WK1.out.skip2 (b := 0) HZE.out (by rw [E0.out]; omega))
              clear hy
              go_wp2_with fail
              go_roundw
              case rel => exact ⟨1, L', by omega, by first | rfl | go_num, HZE.out, WK2.out, HO2.out, HT2.out, HB2.out, HZ2.out⟩
              case measure => first | (simp [intOf]; done) | (simp [intOf]; omega)
            · have hq : (y0 != -1) = true := bne_iff_ne.2 hy
              have HC := contains_any _ _ L' y0 HO2.out.rd
              cases hcx : L'.contains y0
              · rw [hcx] at HC
                have HC2 := Lib.hid HC
                obtain ⟨wka, hze⟩ := WK1.out.add2 HG.out (b := 0) HZE.out (by decide) (by rw [E0.out]; omega) (by rw [E0.out]; intro hm; rw [List.contains_iff_mem.2 hm] at hcx; cases hcx)
                rw [E0.out] at wka hze
                have WK2 := Lib.hid wka
                have HZE2 := Lib.hid hze
                have hown : wr.ownsRow (w.heap.size + 1) 2 1 _ L'.length (intVals L') := HO2.out
                clear hy HC hcx wka hze
                go_wp2_with fail
                refine HC2.out.mono ?_; rintro e w' ⟨rfl, rfl⟩
                go_wp2_with (at_builtin; refine wpList_append_own _ rfl _ _ 22 rfl (w.heap.size + 1) 2 i0 (.int .i64 0) 1 8 Try.underlying22 hi hz0 hz1 hz2 rfl (by decide) _ _ _ rfl (hown.alloc _) ⟨wr.heap.size, 0, none⟩ 1 1 [.int .i64 y0] rfl rfl ?_ ?_ ?_ ?_ ?_ ?_)
                all_goals first | exact c1_int1 _ _ _ | rfl | (intro u hu; simp at hu; subst hu; rfl) | (unfold maxLen; first | omega | (simp; omega)) | (first | omega | (simp; omega)) | (have := HZ2.out; simp at this ⊢; omega) | skip
                intro v1 w2 hown1 hgrow1 _
                have hb2 := below_int (Below.refl (w.heap.size + 1) wr) HZ2.out (Nat.le_refl _) hown hgrow1
                have HO3 : Hid (Own w2 (w.heap.size + 1) v1 (L' ++ [y0])) := by
                  show Own _ _ _ _
                  refine own_of hown1 ?_ ?_
                  · simp
                  · simp [intVals]
                have HT3 : Hid (w2.heap[w.heap.size]? = some (.cells tab 113 (0, 0))) := (hb2.block _ (Nat.lt_succ_self _)).trans HT2.out
                have HB3 := Lib.hid (HB2.out.trans (hb2.mono (Nat.le_succ _)))
                have HZ3 := Lib.hid (Nat.le_trans HZ2.out hb2.size)
                clear hown hown1 hgrow1 hb2
                go_wp2_with fail
                go_roundw
                case rel => exact ⟨1, L' ++ [y0], by omega, by first | rfl | go_num, HZE2.out, WK2.out, HO3.out, HT3.out, HB3.out, HZ3.out⟩
                case measure => first | (simp [intOf]; done) | (simp [intOf]; omega)
              · rw [hcx] at HC
                have HC2 := Lib.hid HC
                have WK2 := Lib.hid (WK1.out.skip2 (b := 0) HZE.out (fun _ => by rw [E0.out]; exact List.contains_iff_mem.1 hcx))
                clear hy HC hcx
                go_wp2_with fail
                refine HC2.out.mono ?_; rintro e w' ⟨rfl, rfl⟩
                go_wp2_with fail
                go_roundw
                case rel => exact ⟨1, L', by omega, by first | rfl | go_num, HZE.out, WK2.out, HO2.out, HT2.out, HB2.out, HZ2.out⟩
                case measure => first | (simp [intOf]; done) | (simp [intOf]; omega)
          · clear hb hb2
            have HY1 : Hid (eG g z 1 = y1) := E1.out
            have hbd := eG_bd HG.out HZI.out (b := 1) (by decide)
            rw [E1.out] at hbd
            obtain ⟨d0, d1⟩ := hbd
            have hn1 : IntKind.i64.wrap ((1 : Int) + 1) = (1 : Int) + 1 := by decide
            by_cases hy : y1 = -1
            · have hq : (y1 != -1) = false := by rw [hy]; decide
              have WK2 := Lib.hid (WK1.out.skip2 (b := 1) HZE.out (by rw [E1.out]; omega))
              clear hy
              go_wp2_with fail
              go_roundw
              case rel => exact ⟨2, L', by omega, by first | rfl | go_num, HZE.out, WK2.out, HO2.out, HT2.out, HB2.out, HZ2.out⟩
              case measure => first | (simp [intOf]; done) | (simp [intOf]; omega)
            · have hq : (y1 != -1) = true := bne_iff_ne.2 hy
              have HC := contains_any _ _ L' y1 HO2.out.rd
              cases hcx : L'.contains y1
              · rw [hcx] at HC
                have HC2 := Lib.hid HC
                obtain ⟨wka, hze⟩ := WK1.out.add2 HG.out (b := 1) HZE.out (by decide) (by rw [E1.out]; omega) (by rw [E1.out]; intro hm; rw [List.contains_iff_mem.2 hm] at hcx; cases hcx)
                rw [E1.out] at wka hze
                have WK2 := Lib.hid wka
                have HZE2 := Lib.hid hze
                have hown : wr.ownsRow (w.heap.size + 1) 2 1 _ L'.length (intVals L') := HO2.out
                clear hy HC hcx wka hze
                go_wp2_with fail
                refine HC2.out.mono ?_; rintro e w' ⟨rfl, rfl⟩
                go_wp2_with (at_builtin; refine wpList_append_own _ rfl _ _ 22 rfl (w.heap.size + 1) 2 i0 (.int .i64 0) 1 8 Try.underlying22 hi hz0 hz1 hz2 rfl (by decide) _ _ _ rfl (hown.alloc _) ⟨wr.heap.size, 0, none⟩ 1 1 [.int .i64 y1] rfl rfl ?_ ?_ ?_ ?_ ?_ ?_)
                all_goals first | exact c1_int1 _ _ _ | rfl | (intro u hu; simp at hu; subst hu; rfl) | (unfold maxLen; first | omega | (simp; omega)) | (first | omega | (simp; omega)) | (have := HZ2.out; simp at this ⊢; omega) | skip
                intro v1 w2 hown1 hgrow1 _
                have hb2 := below_int (Below.refl (w.heap.size + 1) wr) HZ2.out (Nat.le_refl _) hown hgrow1
                have HO3 : Hid (Own w2 (w.heap.size + 1) v1 (L' ++ [y1])) := by
                  show Own _ _ _ _
                  refine own_of hown1 ?_ ?_
                  · simp
                  · simp [intVals]
                have HT3 : Hid (w2.heap[w.heap.size]? = some (.cells tab 113 (0, 0))) := (hb2.block _ (Nat.lt_succ_self _)).trans HT2.out
                have HB3 := Lib.hid (HB2.out.trans (hb2.mono (Nat.le_succ _)))
                have HZ3 := Lib.hid (Nat.le_trans HZ2.out hb2.size)
                clear hown hown1 hgrow1 hb2
                go_wp2_with fail
                go_roundw
                case rel => exact ⟨2, L' ++ [y1], by omega, by first | rfl | go_num, HZE2.out, WK2.out, HO3.out, HT3.out, HB3.out, HZ3.out⟩
                case measure => first | (simp [intOf]; done) | (simp [intOf]; omega)
              · rw [hcx] at HC
                have HC2 := Lib.hid HC
                have WK2 := Lib.hid (WK1.out.skip2 (b := 1) HZE.out (fun _ => by rw [E1.out]; exact List.contains_iff_mem.1 hcx))
                clear hy HC hcx
                go_wp2_with fail
                refine HC2.out.mono ?_; rintro e w' ⟨rfl, rfl⟩
                go_wp2_with fail
                go_roundw
                case rel => exact ⟨2, L', by omega, by first | rfl | go_num, HZE.out, WK2.out, HO2.out, HT2.out, HB2.out, HZ2.out⟩
                case measure => first | (simp [intOf]; done) | (simp [intOf]; omega)
    · have hge : L.length = k := by omega
      have hpos : 1 ≤ L.length := by
        have := WK.out.frm
        cases L with
        | nil => cases this
        | cons a b => simp
      have HS := Lib.hid (sort_any _ _ _ L HO.out ⟨hpos, by omega⟩)
      have HLE : Hid (L.length ≤ k) := by show _ ≤ _; omega
      have hlt' : ¬ (k : Int) < (L.length : Int) := by omega
      obtain ⟨gb, cc, rfl, hgb, -⟩ := own_some HO.out (by omega)
      clear hge hpos
      go_wp2_with fail
      refine HS.out.mono ?_; rintro e w2 ⟨rfl, R, ⟨hp, hs⟩, ho2, hg2⟩
      have HE := Lib.hid (WK.out.fin HG.out HX.out HLE.out hp hs)
      have HF : Hid (Own w2 w.heap.size (.slice (some ⟨gb, 0, none⟩) L.length cc) R) := by
        show Own _ _ _ _
        exact Own.base (own_of ho2 hp.length_eq.symm rfl) (Nat.le_succ _)
      have HB2 : Hid (Below w.heap.size w w2) := HB.out.grown hg2 HB.out.size (fun j hj => by simp [Value.ownBlock] at hj; omega)
      clear ho2 hg2 hp hs
      go_wp2_with fail
      go_ret
      exact ⟨_, rfl, by rw [← HE.out]; exact HF.out, HB2.out⟩
end Go.Proofs.Ytllkojakeoennab
