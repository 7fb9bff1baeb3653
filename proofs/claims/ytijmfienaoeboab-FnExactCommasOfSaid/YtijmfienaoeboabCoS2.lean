/- The model's CommasOf. -/
import Derived.Test.YtijmfienaoeboabCoQ2
import Derived.Test.YtijmfienaoeboabCoI2
import Derived.Test.YtijmfienaoeboabCmS
import Derived.Test.YtijmfienaoeboabSrs
import Derived.Test.YtijmfienaoeboabBtw
namespace Go.Proofs.Ytijmfienaoeboab
open Go Go.RowKit
set_option linter.unusedVariables false

theorem Try.infoBool : (Try.prog.info? 4).map (fun i => (i.zero, i.size, i.bytes)) = some (some (.bool false), 1, 1) := by kernel_rfl
theorem extract_dt (b : ByteArray) (i j : Nat) : (b.extract i j).data.toList = (b.data.toList.drop i).take (j - i) := by
  rw [ByteArray.data_extract]
  simp [Array.toList_extract]
/-- The row of marks. -/
def SE (B g N : Nat) (wr : World) (S : List Nat) : Prop := wr.ownsRow B 4 1 (.slice (some ⟨g, 0, none⟩) N N) N (seenC S N)
theorem SE.keep {B g N : Nat} {W W' : World} {S : List Nat} (h : SE B g N W S) (hb : Below W.heap.size W W') : SE B g N W' S := ownt_below h hb

set_option maxRecDepth 100000 in
set_option maxHeartbeats 1000000 in
theorem commasOf_spec (w : World) (d wd len : Int) (vm vp : Value) (m p : List ByteArray) (hm : RdS w vm m) (hp : RdS w vp p) (hl0 : -9223372036854775808 ≤ len) (hl1 : len ≤ 9223372036854775807) (sm : ∀ s ∈ m, s.size ≤ 4000000) (sp : ∀ s ∈ p, s.size ≤ 4000000) (lm : m.length ≤ 4000000) (lp : p.length ≤ 4000000) :
    Calls Try.prog 55 #[.agg #[.int .i64 d, .int .i64 wd, vm, vp], .int .i64 len] w fun e w' => ∃ u, e = .returned (.tuple #[u, .bool (coOk d wd m p len)]) ∧ OwnT w' w.heap.size u (coV d wd m p len) ∧ Below w.heap.size w w' := by
  obtain ⟨A1, n1, c1, rfl⟩ := rds_sh2 hm
  obtain ⟨A2, n2, c2, rfl⟩ := rds_sh2 hp
  have HB0 : Hid (Below w.heap.size w (w.alloc (.cells #[.int .i64 d, .int .i64 wd, .slice A1 n1 c1, .slice A2 n2 c2] 61))) := (Below.refl _ _).alloc (Nat.le_refl _) _
  have HK0 : Hid (Bk (w.alloc (.cells #[.int .i64 d, .int .i64 wd, .slice A1 n1 c1, .slice A2 n2 c2] 61)) w.heap.size (bcV d wd (.slice A1 n1 c1) (.slice A2 n2 c2))) := Bk.new w (bcV d wd (.slice A1 n1 c1) (.slice A2 n2 c2)) 61 _ rfl
  have HV := Lib.hid (l03Is_any _ w.heap.size d wd _ _ m p HK0.out (hm.keep HB0.out) (hp.keep HB0.out) sm sp)
  have HM := Lib.hid (hm.keep HB0.out)
  have HP := Lib.hid (hp.keep HB0.out)
  obtain ⟨i0, hi, hz0, hz1, hz2⟩ := info_parts Try.infoStr
  obtain ⟨j0, hj, hy0, hy1, hy2⟩ := info_parts Try.infoBool
  clear hm hp sm sp
  cases hok : bcOk d wd m p
  · have HE : Hid (coOk d wd m p len = false) := by show _ = _; unfold coOk; rw [hok]; rfl
    have HEV : Hid (coV d wd m p len = []) := by show _ = _; unfold coV; rw [if_neg (by rw [HE.out]; decide)]
    rw [hok] at HV
    clear hok
    go_enter Try.func55, Try.ntmps55
    go_wp2_with fail
    refine HV.out.mono ?_; rintro e w1 ⟨rfl, q, rfl⟩
    go_wp2_with fail
    go_ret2
    exact ⟨_, ret_ub2 HE.out.symm, by rw [HEV.out]; exact World.ownsRow_nil _ _ _ _, below_drewN HB0.out q⟩
  · rw [hok] at HV
    have hnum := (bcOk_nums hok).1
    obtain ⟨hwb0, hwb1⟩ : 2 ≤ wd ∧ wd ≤ 12 := by omega
    obtain ⟨M, hM⟩ : ∃ M, M = min 8 (wd + 1) := ⟨_, rfl⟩
    have HMN : Hid (min 8 (wd + 1) = M) := hM.symm
    have hMb : 3 ≤ M ∧ M ≤ 8 := by omega
    obtain ⟨hMb0, hMb1⟩ := hMb
    have hMw : M ≤ wd + 1 := by omega
    have q1 := HK0.out.c 1 _ rfl
    by_cases hbt : 1 ≤ len ∧ len ≤ M
    · obtain ⟨t1, t2⟩ := hbt
      have HE : Hid (coOk d wd m p len = true) := by show _ = _; unfold coOk; rw [hok, decide_eq_true ⟨t1, by rw [← hM]; exact t2⟩]; rfl
      obtain ⟨L, rfl⟩ := Int.eq_ofNat_of_zero_le (show 0 ≤ len by omega)
      obtain ⟨W0, rfl⟩ := Int.eq_ofNat_of_zero_le (show 0 ≤ wd by omega)
      have HEV : Hid (coV d (W0 : Int) m p (L : Int) = coF m p L (2 ^ L)) := by show _ = _; unfold coV; rw [if_pos HE.out, Int.toNat_natCast]
      have hL1 : 1 ≤ L := by omega
      have hL8 : L ≤ 8 := by omega
      obtain ⟨N, hN, hNw, hNi, hN2⟩ := pow_num L hL8
      have HEV2 : Hid (coV d (W0 : Int) m p (L : Int) = coF m p L N) := by show _ = _; rw [HEV.out, hN]
      have HMI : Hid (∀ i, i < N → (decide (i ∈ marks m p W0 L) = mcB m p (coW L i).data.toList)) := by
        show ∀ i, _
        intro i hi
        rw [Bool.eq_iff_iff, decide_eq_true_iff]
        exact marks_iff hok hL1 hL8 (by omega) (by rw [hN]; exact hi)
      have HNW := Lib.hid hNw
      have HNI := Lib.hid hNi
      have HWL : Hid (∀ (s : Int) (y : ByteArray), y ∈ wl m p s → isB y.data.toList = true ∧ inR 48 49 y.data.toList = true ∧ y.size = W0) := by
        show ∀ s y, _
        intro s y hy
        obtain ⟨y1, y2, y3⟩ := wl_ok hok hy
        refine ⟨?_, y1, by omega⟩
        unfold isB
        rw [y1, decide_eq_true (by simp; omega)]; rfl
      have hLW : L ≤ W0 + 1 := by omega
      clear hnum hN HEV hM hNw hNi hok
      go_enter Try.func55, Try.ntmps55
      go_wp2_with fail
      refine HV.out.mono ?_; rintro e w1 ⟨rfl, q, rfl⟩
      go_wp2_with fail
      refine (l00Min_any _ _ _).mono ?_; rintro e w2 ⟨rfl, rfl⟩
      rw [HMN.out]
      go_wp2_with fail
      refine (l00In_yes _ _ _ _ t1 t2).mono ?_; rintro e w3 ⟨rfl, rfl⟩
      have HB1 := Lib.hid (below_drewN HB0.out q)
      have HK1 : Hid (Bk ((w.alloc (.cells #[.int .i64 d, .int .i64 (W0 : Int), .slice A1 n1 c1, .slice A2 n2 c2] 61)).drewN q) w.heap.size (bcV d (W0 : Int) (.slice A1 n1 c1) (.slice A2 n2 c2))) := Bk.drewN HK0.out q
      have HM1 := Lib.hid (HM.out.drewN q)
      have HP1 := Lib.hid (HP.out.drewN q)
      clear HB0 HK0 HM HP HV q1
      generalize (w.alloc (.cells #[.int .i64 d, .int .i64 (W0 : Int), .slice A1 n1 c1, .slice A2 n2 c2] 61)).drewN q = W at *
      go_wp2_with (at_make; rw [HNW.out]; refine wpList_make_full _ rfl _ _ 142 rfl W.heap.size 4 j0 (.bool false) 1 Try.underlying142 hj hy0 hy1 _ _ _ _ N rfl rfl rfl rfl ?b2 ?b3 (Nat.le_refl _) ?_)
      case b2 => rw [hy2]; omega
      case b3 => unfold maxLen; omega
      intro w1 hown hgrow
      have hb1 : Below W.heap.size W w1 := (Below.refl _ _).grown hgrow (Nat.le_refl _) (by simp)
      rw [toList_madeCells_one, ← seenC_nil N] at hown
      have HS1 : Hid (SE W.heap.size W.heap.size N w1 []) := hown
      have HW1 := Lib.hid hb1
      clear hgrow hown hb1 hy0 hy1 hy2 hj
      have HWP : Hid (∀ s : Int, (s = -1 ∨ s = 1) → ∃ A n c, (if s = -1 then (.slice A1 n1 c1 : Value) else .slice A2 n2 c2) = .slice A n c ∧ RdS W (.slice A n c) (wl m p s) ∧ (wl m p s).length = n ∧ n ≤ 4000000) := by
        show ∀ s, _
        intro s hs
        rcases hs with rfl | rfl
        · have := HM1.out
          obtain ⟨A, n, c, e, hl, -⟩ := this
          cases e
          exact ⟨_, _, _, rfl, HM1.out, hl, by rw [← hl]; exact lm⟩
        · have := HP1.out
          obtain ⟨A, n, c, e, hl, -⟩ := this
          cases e
          exact ⟨_, _, _, rfl, HP1.out, hl, by rw [← hl]; exact lp⟩
      have HLI := Lib.hid (fun s hs W' hb => lst_st W' w.heap.size d (W0 : Int) _ _ s hs (HK1.out.keep hb))
      have HQ1 := Lib.hid (fun W' hb => (HK1.out.keep (W' := W') hb).c 1 _ rfl)
      have HNX := Lib.hid (fun s x W hx => next_ex s x W hx)
      clear HM1 HP1 lm lp
      go_wp2_with fail
      go_loopw [7] (fun t wr => ∃ k : Nat, k ≤ 2 ∧ t = .int .i64 (2 * (k : Int) - 1) ∧ Below W.heap.size W wr ∧ SE W.heap.size W.heap.size N wr (if k = 0 then [] else if k = 1 then wsA m p W0 L (-1) else marks m p W0 L)) (fun t _ => (3 - intOf t).toNat)
      case atStart => exact ⟨0, by omega, rfl, HW1.out, HS1.out⟩
      case round =>
        clear HS1 HW1
        obtain ⟨k, hk, rfl, hbl, hse⟩ := hrel
        have HB := Lib.hid hbl
        have HSE := Lib.hid hse
        clear hbl hse
        by_cases hlt : k < 2
        · obtain ⟨s, es, hs⟩ : ∃ s : Int, s = 2 * (k : Int) - 1 ∧ (s = -1 ∨ s = 1) := ⟨_, rfl, by omega⟩
          obtain ⟨A, n, c, eV, hr, hn, hn4⟩ := HWP.out s hs
          have HL := Lib.hid (HLI.out s hs wr HB.out)
          rw [eV] at HL
          rw [← es]
          obtain ⟨P0, hP0⟩ : ∃ P0, P0 = (if k = 0 then ([] : List Nat) else if k = 1 then wsA m p W0 L (-1) else marks m p W0 L) := ⟨_, rfl⟩
          rw [← hP0] at HSE
          have HPN : Hid (P0 ++ wsA m p W0 L s = (if k + 1 = 0 then ([] : List Nat) else if k + 1 = 1 then wsA m p W0 L (-1) else marks m p W0 L)) := by
            show _ = _
            rw [hP0]
            rcases (show k = 0 ∨ k = 1 from by omega) with h | h
            · subst h; rw [es]; rfl
            · subst h; rw [es]; rfl
          have HES := Lib.hid es
          have HSS := Lib.hid hs
          have HR := Lib.hid hr
          have HN := Lib.hid hn
          obtain ⟨hs0, hs1⟩ : -1 ≤ s ∧ s ≤ 1 := by omega
          have HLT := Lib.hid hlt
          clear es hs eV hr hn hlt hk hP0
          go_wp2_with fail
          refine HL.out.mono ?_; rintro e w5 ⟨rfl, rfl⟩
          clear HL
          go_wp2_with fail
          go_loopw [9] (fun t wr => ∃ i : Nat, i ≤ n ∧ t = .int .i64 i ∧ Below W.heap.size W wr ∧ SE W.heap.size W.heap.size N wr (P0 ++ ((wl m p s).take i).flatMap (wy m p W0 L s))) (fun t _ => n - (intOf t).toNat)
          case atStart => exact ⟨0, Nat.zero_le _, rfl, HB.out, by simpa using HSE.out⟩
          case round =>
            clear HB HSE
            obtain ⟨i, hi0, rfl, hbl, hse⟩ := hrel
            have HB := Lib.hid hbl
            have HSE := Lib.hid hse
            clear hbl hse
            by_cases hlt2 : i < n
            · have hil : i < (wl m p s).length := by rw [HN.out]; exact hlt2
              obtain ⟨A, nn, cc, e, -, -, -, hcs⟩ := HR.out
              cases e
              obtain ⟨g, o, rfl, hgl, hc⟩ := hcs (by omega)
              have hc0 := (HB.out.cell (p := ⟨g, o + i, none⟩) hgl).trans (hc i hil)
              have hx0 : (0 : Int) ≤ (i : Int) := by omega
              have hx1 : (i : Int) < (n : Int) := by omega
              obtain ⟨hyB, hyb, hyW⟩ := HWL.out s _ (List.getElem_mem hil)
              have HFT := Lib.hid (flat_take (wy m p W0 L s) (wl m p s) i hil)
              have HCY := Lib.hid (fun W' (hb : Below W.heap.size W W') => hb)
              clear hc hcs
              generalize (wl m p s)[i] = y at *
              obtain ⟨A', n', c', eV', hr', hn', hn4'⟩ := HWP.out (nxS s y) (nxS_st s y HSS.out)
              have HL' := Lib.hid (HLI.out (nxS s y) (nxS_st s y HSS.out) wr HB.out)
              rw [eV'] at HL'
              have HNY := Lib.hid (HNX.out s y wr hyB)
              have HR' := Lib.hid hr'
              have HN' := Lib.hid hn'
              have HI1 := Lib.hid hlt2
              have HYB := Lib.hid hyb
              have HWY : Hid (wy m p W0 L s y = (wl m p (nxS s y)).flatMap (wz W0 L y)) := rfl
              obtain ⟨hu0, hu1⟩ : -1 ≤ nxS s y ∧ nxS s y ≤ 1 := by rcases nxS_st s y HSS.out with h | h <;> omega
              obtain ⟨P1, hP1⟩ : ∃ P1, P1 = P0 ++ ((wl m p s).take i).flatMap (wy m p W0 L s) := ⟨_, rfl⟩
              rw [← hP1] at HSE
              have HP1 := Lib.hid hP1
              clear eV' hr' hn' hlt2 hil hyB hyb hP1
              generalize hgu : nxS s y = u at *
              clear hgu
              go_wp2_with fail
              refine HNY.out.mono ?_; rintro e w6 ⟨rfl, rfl⟩
              go_wp2_with fail
              refine HL'.out.mono ?_; rintro e w7 ⟨rfl, rfl⟩
              go_wp2_with fail
              go_loopw [11] (fun t wr => ∃ j : Nat, j ≤ n' ∧ t = .int .i64 j ∧ Below W.heap.size W wr ∧ wr.cell? ⟨g, o + i, none⟩ = some (.string y) ∧ SE W.heap.size W.heap.size N wr (P1 ++ ((wl m p u).take j).flatMap (wz W0 L y))) (fun t _ => n' - (intOf t).toNat)
              case atStart => exact ⟨0, Nat.zero_le _, rfl, HB.out, hc0, by simpa using HSE.out⟩
              case round =>
                clear HB HSE hc0 HNY HL' HCY
                obtain ⟨j, hj0, rfl, hbl, hc0, hse⟩ := hrel
                have HB := Lib.hid hbl
                have HSE := Lib.hid hse
                clear hbl hse
                by_cases hlt3 : j < n'
                · have hjl : j < (wl m p u).length := by rw [HN'.out]; exact hlt3
                  obtain ⟨A', nn', cc', e, -, -, -, hcs'⟩ := HR'.out.keep HB.out
                  cases e
                  obtain ⟨g', o', rfl, hgl', hc'⟩ := hcs' (by omega)
                  have hd0 := hc' j hjl
                  have hy0 : (0 : Int) ≤ (j : Int) := by omega
                  have hy1 : (j : Int) < (n' : Int) := by omega
                  obtain ⟨hzB, hzb, hzW⟩ := HWL.out u _ (List.getElem_mem hjl)
                  have HFJ := Lib.hid (flat_take (wz W0 L y) (wl m p u) j hjl)
                  clear hc' hcs'
                  generalize (wl m p u)[j] = z at *
                  have HJ1 := Lib.hid hlt3
                  have hbs : (y ++ z).size = y.size + z.size := by simp
                  have hbl2 : (y ++ z).data.toList = y.data.toList ++ z.data.toList := by simp [ByteArray.data_append]
                  have r1 : ∀ W : World, (Op.stringOp .add y z).run Try.prog W = .ok (.string (y ++ z)) W := fun W => run_string_add_sum W _ _ (by omega)
                  have hbb : inR 48 49 (y ++ z).data.toList = true := by rw [hbl2]; exact inR_app HYB.out hzb
                  have HWZ : Hid (wz W0 L y z = (List.range (2 * W0 + 1 - L)).map fun a => winV L a (y ++ z).data.toList) := by show _ = _; rw [hbl2]; rfl
                  obtain ⟨B, hB⟩ : ∃ B, B = y ++ z := ⟨_, rfl⟩
                  rw [← hB] at hbs r1 hbb HWZ
                  have hB2 : B.size = 2 * W0 := by omega
                  have HBB := Lib.hid hbb
                  obtain ⟨P2, hP2⟩ : ∃ P2, P2 = P1 ++ ((wl m p u).take j).flatMap (wz W0 L y) := ⟨_, rfl⟩
                  rw [← hP2] at HSE
                  have HP2 := Lib.hid hP2
                  obtain ⟨wq, hwq⟩ : ∃ wq, wq = wr := ⟨_, rfl⟩
                  rw [← hwq] at HB HSE hc0 hd0 ⊢
                  clear hB hbs hbl2 hlt3 hjl hzB hzb hbb hP2 hwq
                  go_wp2_with fail
                  go_quiet (fail)
                  go_wp2_with fail
                  have hcq : (wq.drewN nq).cell? ⟨g, o + i, none⟩ = some (.string y) := by simpa using hc0
                  have HBQ := Lib.hid (below_drewN HB.out nq)
                  have HSQ := Lib.hid (SE.keep HSE.out (below_drewN (Below.refl wq.heap.size wq) nq))
                  have HCQ := Lib.hid hcq
                  clear hc0 hd0 hcq HB HSE r1
                  go_loopw [13] (fun t wr => ∃ a : Nat, a ≤ 2 * W0 + 1 - L ∧ t = .int .i64 a ∧ Below W.heap.size W wr ∧ wr.cell? ⟨g, o + i, none⟩ = some (.string y) ∧ SE W.heap.size W.heap.size N wr (P2 ++ (List.range a).map fun a => winV L a B.data.toList)) (fun t _ => 2 * W0 + 2 - L - (intOf t).toNat)
                  case atStart => exact ⟨0, Nat.zero_le _, rfl, by simpa using HBQ.out, by simpa using HCQ.out, by simpa using HSQ.out⟩
                  case round =>
                    clear HBQ HSQ HCQ
                    obtain ⟨a, ha0, rfl, hbl, hc0, hse⟩ := hrel
                    have HB := Lib.hid hbl
                    have q1 := HQ1.out wr hbl
                    by_cases hlt4 : a < 2 * W0 + 1 - L
                    · have hle : (a : Int) + (L : Int) ≤ 2 * (W0 : Int) := by omega
                      have hxl : (B.extract a (a + L)).data.toList = (B.data.toList.drop a).take L := by rw [extract_dt]; congr 1; omega
                      have hxs : (B.extract a (a + L)).size = L := by rw [ByteArray.size_extract]; omega
                      have hxb : inR 48 49 (B.extract a (a + L)).data.toList = true := by rw [hxl]; exact inR_dt HBB.out a L
                      have hNu := l01Number_any (B.extract a (a + L)) wr (by omega) hxb
                      have hbd := valN_bd L (B.extract a (a + L)).data.toList (by rw [Array.length_toList]; exact hxs) hxb
                      obtain ⟨x, hx⟩ : ∃ x : Nat, x = winV L a B.data.toList := ⟨_, rfl⟩
                      have hvx : valN (B.extract a (a + L)).data.toList = (x : Int) := by rw [hx, hxl]; unfold winV; rw [hxl] at hbd; omega
                      rw [hvx] at hNu
                      have hxN : x < N := by
                        have h2 := hbd.2
                        rw [hvx, HNI.out] at h2
                        omega
                      have hx0 : (0 : Int) ≤ (x : Int) := by omega
                      have hx1 : (x : Int) < (N : Int) := by omega
                      have HNU := Lib.hid hNu
                      have hfr := hse.frozenAt x
                      have hcl := hse.cellAt x (by omega)
                      rw [seenC_at _ _ _ hxN] at hcl
                      have hst := (hse.stored x (.bool true)).1
                      rw [seenC_set _ _ _ hxN, hx, List.append_assoc, show ((List.range a).map fun a => winV L a B.data.toList) ++ [winV L a B.data.toList] = (List.range (a + 1)).map (fun a => winV L a B.data.toList) from by simp [List.range_succ], ← hx] at hst
                      have HST := Lib.hid hst
                      have HBS := Lib.hid (hbl.setCell (p := ⟨W.heap.size, x, none⟩) (Nat.le_refl _) (.bool true))
                      have HCS : Hid ((wr.setCell ⟨W.heap.size, x, none⟩ (.bool true)).cell? ⟨g, o + i, none⟩ = some (.string y)) := by
                        show _ = _
                        rw [World.cell?_setCell_far _ _ _ _ (by simp; omega)]
                        exact hc0
                      have hlo : (0 : Int) ≤ (a : Int) := by omega
                      have hhi : (a : Int) + (L : Int) ≤ (B.size : Int) := by omega
                      have ht1 : ((a : Int) + (L : Int)).toNat = a + L := by omega
                      have HA1 := Lib.hid hlt4
                      clear hse hst hxl hxs hxb hNu hbd hvx hx hc0 hbl hlt4
                      go_wp2_with fail
                      refine HNU.out.mono ?_; rintro e w9 ⟨rfl, rfl⟩
                      go_wp2_with fail
                      go_roundw
                      case rel => exact ⟨a + 1, HA1.out, by go_num, HBS.out, HCS.out, HST.out⟩
                      case measure => simp [intOf]; omega
                    · obtain rfl : a = 2 * W0 + 1 - L := by omega
                      have hnle : ¬ ((2 * W0 + 1 - L : Nat) : Int) + (L : Int) ≤ 2 * (W0 : Int) := by omega
                      have HSF : Hid (SE W.heap.size W.heap.size N wr (P1 ++ ((wl m p u).take (j + 1)).flatMap (wz W0 L y))) := by
                        show SE _ _ _ _ _
                        rw [HFJ.out, HWZ.out, ← List.append_assoc, ← HP2.out]
                        exact hse
                      have HCS := Lib.hid hc0
                      clear hse hc0 hbl
                      go_wp2_with fail
                      go_roundw
                      case rel => exact ⟨j + 1, HJ1.out, by go_num, HB.out, HCS.out, HSF.out⟩
                      case measure => simp [intOf]; omega
                · obtain rfl : j = n' := by omega
                  have HSF : Hid (SE W.heap.size W.heap.size N wr (P0 ++ ((wl m p s).take (i + 1)).flatMap (wy m p W0 L s))) := by
                    show SE _ _ _ _ _
                    rw [HFT.out, HWY.out, ← List.append_assoc, ← HP1.out]
                    have h := HSE.out
                    rw [List.take_of_length_le (by rw [HN'.out]; exact Nat.le_refl _)] at h
                    exact h
                  go_wp2_with fail
                  go_roundw
                  case rel => exact ⟨i + 1, HI1.out, by go_num, HB.out, HSF.out⟩
                  case measure => simp [intOf]; omega
            · obtain rfl : i = n := by omega
              have HSF : Hid (SE W.heap.size W.heap.size N wr (if k + 1 = 0 then ([] : List Nat) else if k + 1 = 1 then wsA m p W0 L (-1) else marks m p W0 L)) := by
                show SE _ _ _ _ _
                rw [← HPN.out]
                have h := HSE.out
                rw [List.take_of_length_le (by rw [HN.out]; exact Nat.le_refl _)] at h
                exact h
              go_wp2_with fail
              go_roundw
              case rel => exact ⟨k + 1, HLT.out, by rw [HES.out]; go_num, HB.out, HSF.out⟩
              case measure => simp [intOf]; omega
        · obtain rfl : k = 2 := by omega
          have hse : SE W.heap.size W.heap.size N wr (marks m p W0 L) := HSE.out
          have HCE : Hid (∀ i, i < N → wr.cell? ⟨W.heap.size, i, none⟩ = some (.bool (mcB m p (coW L i).data.toList))) := by
            show ∀ i, _
            intro i hi
            have h := World.ownsRow.cellAt hse i (by omega)
            rw [seenC_at _ _ _ hi, HMI.out i hi] at h
            exact h
          have HGL : Hid (W.heap.size < wr.heap.size) := (World.ownsRow.lt hse W.heap.size rfl).2
          clear hse HSE HWP HLI HQ1 HNX
          go_wp2_with fail
          obtain ⟨wx, hwx⟩ : ∃ wx, wx = wr := ⟨_, rfl⟩
          subst hwx
          have HBW : Hid (Below w.heap.size w wx) := HB1.out.trans (HB.out.mono HB1.out.size)
          have HDG := Lib.hid (fun (x : Nat) W' (hx : (x : Int) ≤ 9223372036854775807) => l01Digits_any (x : Int) L W' (by omega) hx (by omega))
          have hw0 : OwnT (wx.alloc (.cells #[] 9)) wx.heap.size (.slice (some ⟨wx.heap.size, 0, none⟩) 0 0) [] := World.ownsRow_made wx #[] 0 (Nat.le_refl _) (by decide) rfl
          have HO0 : Hid (OwnT (wx.alloc (.cells #[] 9)) wx.heap.size (.slice (some ⟨wx.heap.size, 0, none⟩) 0 0) (coF m p L 0)) := hw0
          have HA0 : Hid (Below wx.heap.size wx (wx.alloc (.cells #[] 9))) := (Below.refl _ _).alloc (Nat.le_refl _) _
          clear hw0
          rw [show (2 * ((2 : Nat) : Int) - 1) = 3 from rfl]
          go_loopw [14, 15] (fun cs t wz => ∃ x : Nat, x ≤ N ∧ t = .int .i64 x ∧ OwnT wz wx.heap.size cs (coF m p L x) ∧ Below wx.heap.size wx wz) (fun _ t _ => N - (intOf t).toNat)
          case atStart => exact ⟨0, Nat.zero_le _, rfl, HO0.out, HA0.out⟩
          case round =>
            clear HO0 HA0 HB
            obtain ⟨x, hx, rfl, hown, hbl⟩ := hrel
            have OB := Lib.hid hown
            have HB := Lib.hid hbl
            clear hown hbl
            by_cases hlt : x < N
            · have hcx := (HB.out.cell (p := ⟨W.heap.size, x, none⟩) HGL.out).trans (HCE.out x hlt)
              have hx0 : (0 : Int) ≤ (x : Int) := by omega
              have hx1 : (x : Int) < (N : Int) := by omega
              have HDX := Lib.hid (HDG.out x wr (by omega))
              obtain ⟨T, hT⟩ : ∃ T, T = coW L x := ⟨_, rfl⟩
              have hT' : (⟨(digs (x : Int) L L).toArray⟩ : ByteArray) = T := hT.symm
              rw [hT'] at HDX
              rw [← hT] at hcx
              have HY : Hid (mcB m p T.data.toList = false → coF m p L (x + 1) = coF m p L x ++ [T]) := by show _ → _; intro h; rw [hT] at h ⊢; exact coF_yes m p L x h
              have HNo : Hid (mcB m p T.data.toList = true → coF m p L (x + 1) = coF m p L x) := by show _ → _; intro h; rw [hT] at h; exact coF_no m p L x h
              have HLN := Lib.hid (coF_len m p L x)
              clear hT hT'
              generalize coF m p L x = Q at *
              generalize mcB m p T.data.toList = R at *
              cases R
              · have HQ := Lib.hid (HY.out rfl)
                go_wp2_with fail
                refine HDX.out.mono ?_; rintro e w4 ⟨rfl, hb4⟩
                have HB4 := Lib.hid (HB.out.trans (hb4.mono HB.out.size))
                have O4 := Lib.hid (OwnT.keep OB.out hb4)
                clear hb4 hcx
                have hown : w4.ownsRow wx.heap.size 9 1 u14 Q.length (strVals Q) := O4.out
                obtain ⟨Av, cv, rfl⟩ := ownt_shape hown
                have hql : Q.length ≤ 256 := by have := HLN.out; omega
                have hws : wx.heap.size ≤ w4.heap.size := HB4.out.size
                go_wp2_with (at_builtin; refine wpList_append_own _ rfl _ _ 22 rfl wx.heap.size 9 i0 (.string ByteArray.empty) 1 16 Try.underlying22 hi hz0 hz1 hz2 rfl (by decide) _ _ _ rfl (hown.alloc _) ⟨w4.heap.size, 0, none⟩ 1 1 [.string T] rfl rfl ?_ ?_ ?_ ?_ ?_ ?_)
                all_goals first | exact c1_one _ _ _ | rfl | (intro u hu; simp at hu; subst hu; rfl) | (unfold maxLen; first | omega | (simp; omega)) | (first | omega | (simp; omega)) | skip
                intro v1 w9 hown1 hgrow1 _
                have hb9 := below_app (Below.refl wx.heap.size w4) hws hown hgrow1
                have Q9 : Hid (OwnT w9 wx.heap.size v1 (Q ++ [T])) := by
                  show OwnT _ _ _ _
                  unfold OwnT; rw [List.length_append, ← strVals_snoc]; exact hown1
                have B9 := Lib.hid (HB4.out.trans hb9)
                clear hown hgrow1 hb9 hown1
                go_wp2_with fail
                go_roundw
                case rel => exact ⟨x + 1, by omega, by go_num, by rw [HQ.out]; exact Q9.out, B9.out⟩
                case measure => simp [intOf]; omega
              · have HQ := Lib.hid (HNo.out rfl)
                go_wp2_with fail
                go_roundw
                case rel => exact ⟨x + 1, by omega, by go_num, by rw [HQ.out]; exact OB.out, HB.out⟩
                case measure => simp [intOf]; omega
            · obtain rfl : x = N := by omega
              go_wp2_with fail
              go_ret2
              exact ⟨_, ret_ub2 HE.out.symm, by rw [HEV2.out]; exact OwnT.base OB.out HBW.out.size, HBW.out.trans (HB.out.mono HBW.out.size)⟩
    · have HE : Hid (coOk d wd m p len = false) := by show _ = _; unfold coOk; rw [← hM, decide_eq_false hbt]; simp
      have HEV : Hid (coV d wd m p len = []) := by show _ = _; unfold coV; rw [if_neg (by rw [HE.out]; decide)]
      clear hnum hok hM
      go_enter Try.func55, Try.ntmps55
      go_wp2_with fail
      refine HV.out.mono ?_; rintro e w1 ⟨rfl, q, rfl⟩
      go_wp2_with fail
      refine (l00Min_any _ _ _).mono ?_; rintro e w2 ⟨rfl, rfl⟩
      rw [HMN.out]
      go_wp2_with fail
      refine (l00In_no _ _ _ _ hbt).mono ?_; rintro e w3 ⟨rfl, rfl⟩
      go_wp2_with fail
      go_ret2
      exact ⟨_, ret_ub2 HE.out.symm, by rw [HEV.out]; exact World.ownsRow_nil _ _ _ _, below_drewN HB0.out q⟩
end Go.Proofs.Ytijmfienaoeboab
