/- The model's ReserveSlots. -/
import Derived.Test.YtjhgkkecconcaabRvJ
namespace Go.Proofs.Ytjhgkkecconcaab
open Go Go.RowKit
set_option linter.unusedVariables false

set_option maxRecDepth 100000 in
set_option maxHeartbeats 2000000 in
theorem reserve_spec (w : World) (v : Value) (l : List Int) (f : Int) (h : Rd w v l) :
    Calls Try.prog 23 #[v, .int .i64 f] w fun e w' => ∃ u us, e = .returned (.tuple #[u, .bool (rvK l f)]) ∧ OwnG w' w.heap.size w'.heap.size u us (rvV l f) ∧ Below w.heap.size w w' := by
  have HT0 := Lib.hid (l09Needs_any w v l h)
  have HT1 := Lib.hid (l09Window_any f w)
  cases g0 : ndB l
  · obtain ⟨e1, e2⟩ := rvV_no (rvO_no (l := l) (f := f) (.inl g0)); rw [e1, e2]; clear e1 e2
    rw [g0] at HT0
    clear g0 HT1
    go_enter Try.func23, Try.ntmps23
    go_wp2_with fail
    refine HT0.out.mono ?_; rintro e w' ⟨rfl, rfl⟩
    go_wp2_with fail
    go_ret2
    exact ⟨_, _, rfl, ownG_nil _ _, Below.refl _ _⟩
  cases g1 : rgB 1 20 f
  · obtain ⟨e1, e2⟩ := rvV_no (rvO_no (l := l) (f := f) (.inr g1)); rw [e1, e2]; clear e1 e2
    rw [g0] at HT0
    rw [g1] at HT1
    clear g0 g1
    go_enter Try.func23, Try.ntmps23
    go_wp2_with fail
    refine HT0.out.mono ?_; rintro e w' ⟨rfl, rfl⟩
    go_wp2_with fail
    refine HT1.out.mono ?_; rintro e w' ⟨rfl, rfl⟩
    go_wp2_with fail
    go_ret2
    exact ⟨_, _, rfl, ownG_nil _ _, Below.refl _ _⟩
  obtain ⟨hok, ef, eo⟩ := rvO_yes g0 g1
  have HY := Lib.hid (fun g (e : rvG f.toNat 300 l [] = some g) => rvV_yes (eo.trans e))
  have HNO := Lib.hid (fun (e : rvG f.toNat 300 l [] = none) => rvV_no (eo.trans e))
  generalize hVV : rvV l f = VV at *
  generalize hKK : rvK l f = KK at *
  clear hVV hKK
  obtain ⟨F, hF⟩ : ∃ F : Nat, F = f.toNat := ⟨_, rfl⟩
  rw [← hF] at hok ef HY HNO
  clear hF
  subst ef
  rw [g0] at HT0
  rw [g1] at HT1
  clear eo g0 g1
  have HOK := Lib.hid hok
  obtain ⟨p1, p2, p3, p4, p5⟩ := hok
  have HH := Lib.hid h
  have HCP := Lib.hid (fun W hW => ownP_any W v l hW p1 (by omega))
  have HND := Lib.hid p3
  have HSB := Lib.hid (sum_take_bd p3 p2)
  obtain ⟨b, o, c, rfl, hlt0, hc⟩ := rd_posR h p1
  have HC := Lib.hid hc
  obtain ⟨i0, hi, hz0, hz1, hz2⟩ := info_parts Try.infoRow
  obtain ⟨i1, hj', hy0, hy1, hy2⟩ := info_parts Try.infoInt
  clear hc p3 h
  go_enter Try.func23, Try.ntmps23
  go_wp2_with fail
  refine HT0.out.mono ?_; rintro e w' ⟨rfl, rfl⟩
  go_wp2_with fail
  refine HT1.out.mono ?_; rintro e w' ⟨rfl, rfl⟩
  go_wp2_with fail
  refine (HCP.out _ HH.out).mono ?_; rintro e w1 ⟨u1, rfl, ho1, hb1⟩
  obtain ⟨gl, cl, rfl, hrow⟩ := RowI.of ho1 p1
  have R1 := Lib.hid hrow
  have B1 := Lib.hid hb1
  have HGL : Hid (w.heap.size ≤ gl ∧ gl < w1.heap.size) := ⟨hrow.2.2.1, hrow.2.2.2⟩
  clear ho1 hrow hb1 HT0 HT1 HCP HH
  go_wp2_with fail
  go_loopw [7, 8] (fun s i wr => ∃ k q : Nat, k ≤ l.length ∧ i = .int .i64 k ∧ s = .int .i64 (l.take k).sum ∧ wr = w1.drewN q) (fun _ i _ => l.length - (intOf i).toNat)
  case atStart => exact ⟨0, 0, Nat.zero_le _, rfl, rfl, by first | rfl | simp⟩
  case round =>
    obtain ⟨k, q, hk, rfl, rfl, rfl⟩ := hrel
    by_cases hlt : k < l.length
    · have hc0 := (B1.out.cell (p := ⟨b, o + k, none⟩) hlt0).trans (HC.out k hlt)
      have hx := HND.out l[k] (List.getElem_mem hlt)
      have HS := Lib.hid (sum_take hlt)
      obtain ⟨s1, s2⟩ := HSB.out k
      have hk0 : (0 : Int) ≤ (k : Int) := by omega
      have hk1 : (k : Int) < (l.length : Int) := by omega
      generalize l[k] = x at *
      generalize (l.take k).sum = S at *
      have w1 : IntKind.i64.wrap (S + x) = S + x := IntWalk.i64_in _ (by omega)
      go_wp2_with fail
      first | go_roundw | (go_quiet (fail); go_wp2_with fail; go_roundw)
      case rel => exact ⟨k + 1, _, by omega, by go_num, by rw [HS.out], rfl⟩
      case measure => simp [intOf]; omega
    · obtain rfl : k = l.length := by omega
      rw [List.take_length]
      have R2 := Lib.hid (R1.out.drewN q)
      have B2 := Lib.hid (below_drewN B1.out q)
      have HG2 : Hid (gl < (w1.drewN q).heap.size) := by show _ < _; simpa using HGL.out.2
      have HSM : Hid (0 ≤ l.sum ∧ l.sum ≤ 12000) := by have := HSB.out l.length; rwa [List.take_length] at this
      clear R1 B1 hlt hk HND HSB HC
      generalize w1.drewN q = W2 at *
      have OG2 := Lib.hid (ownG_made W2 W2.heap.size (Nat.le_refl _))
      have R3 := Lib.hid (R2.out.keep ((Below.refl W2.heap.size W2).alloc (Nat.le_refl _) (.cells #[] 22)))
      have B3 := Lib.hid (B2.out.alloc B2.out.size (.cells #[] 22))
      generalize hn : l.length = n at *
      have HN := Lib.hid hn
      clear hn
      go_wp2_with fail
      go_loopg [7, 9] 301 (fun m s v wr => ∃ (L : List Int) (acc : List (List Int)) (us : List Value), m = 301 - acc.length ∧ acc.length ≤ 300 ∧ rvOk L F ∧ L.length = n ∧ s = .int .i64 L.sum ∧ Hid (rvG F 300 l [] = rvG F (300 - acc.length) L acc) ∧ RowI wr w.heap.size gl n cl L ∧ OwnG wr W2.heap.size wr.heap.size v us acc ∧ W2.heap.size ≤ wr.heap.size ∧ Below w.heap.size w wr)
      case atStart => exact ⟨l, [], [], rfl, by simp, HOK.out, HN.out, rfl, rfl, R3.out, OG2.out, by simp, B3.out⟩
      case round =>
        obtain ⟨L, acc, us, rfl, hal, hokL, hLn, rfl, hG, hrl, hog, hlo, hbb⟩ := hrel
        obtain ⟨wo, rfl⟩ : ∃ x, x = wr := ⟨_, rfl⟩
        have OK := Lib.hid hokL
        have RL := Lib.hid hrl
        have OG := Lib.hid hog
        have BB := Lib.hid hbb
        have LN := Lib.hid hLn
        have HLO := Lib.hid hlo
        have HSS : Hid (0 ≤ L.sum ∧ L.sum ≤ 12000) := by
          have a1 := sum_nn fun x hx => (hokL.2.2.1 x hx).1
          have a2 := sum_bd (c := 1000) (by decide) fun x hx => (hokL.2.2.1 x hx).2
          have a3 := hokL.2.1
          refine ⟨a1.1, ?_⟩
          omega
        obtain ⟨A, vc, hv⟩ := own_shape OG.out.row
        have hul : us.length = acc.length := OG.out.len
        rw [hul] at hv
        subst hv
        have HUL := Lib.hid hul
        clear hokL hrl hog hbb R2 R3 B2 B3 OG2 hLn hul hlo
        by_cases hp : 0 < L.sum
        · by_cases hfull : acc.length = 300
          · have HE : Hid (VV = [] ∧ KK = false) := by
              refine HNO.out ?_
              have := hG.out
              rw [hfull] at this
              rw [this]
              exact rvG_full hp
            have h300 : (acc.length : Int) = 300 := by omega
            clear hal hfull hG
            generalize acc.length = m at *
            go_wp2_with fail
            go_ret2
            exact ⟨_, _, ret_vb HE.out.2.symm, by rw [HE.out.1]; exact ownG_nil _ _, BB.out⟩
          · have h300 : ((acc.length : Int) == 300) = false := by rw [beq_eq_false_iff_ne]; omega
            have HG2x : Hid (rvG F 300 l [] = rvG F (300 - (acc ++ [(rvF L F).2]).length) (rvF L F).1 (acc ++ [(rvF L F).2])) := by
              show _ = _
              have e := hG.out
              rw [show 300 - acc.length = (300 - (acc ++ [(rvF L F).2]).length) + 1 by simp; omega, rvG_go hp] at e
              exact e
            have HLE : Hid (acc.length < 300) := by show _ < _; omega
            have HP := Lib.hid hp
            clear hal hfull hG
            have O0 : Hid (Own (wo.alloc (.cells #[] 2)) wo.heap.size (.slice (some ⟨wo.heap.size, 0, none⟩) 0 0) []) := World.ownsRow_made wo #[] 0 (Nat.le_refl _) (by decide) rfl
            have RA := Lib.hid (RL.out.keep ((Below.refl wo.heap.size wo).alloc (Nat.le_refl _) (.cells #[] 2)))
            have GA := Lib.hid (World.grownBy_alloc wo (.cells #[] 2) (some gl))
            have HF : Hid (gl < wo.heap.size) := RL.out.2.2.2
            go_wp2_with fail
            go_loopg [7, 10, 11] 240 (fun m s v i wr => ∃ j : Nat, m = 240 - j ∧ j ≤ 20 * n ∧ i = .int .i64 ((j % n : Nat) : Int) ∧ s = .int .i64 (rvS L F j).1.sum ∧ Own wr wo.heap.size v (rvS L F j).2 ∧ RowI wr w.heap.size gl n cl (rvS L F j).1 ∧ wo.grownBy wr (some gl))
            case atStart => exact ⟨0, rfl, Nat.zero_le _, by simp, rfl, O0.out, RA.out, GA.out⟩
            case round =>
              obtain ⟨j, rfl, hj, rfl, rfl, ho, hl, hgr⟩ := hrel
              have HO := Lib.hid ho
              have HL := Lib.hid hl
              have HG := Lib.hid hgr
              clear ho hl hgr O0 RA GA
              have hI := rvI_all OK.out j
              have hmost := hI.most
              obtain ⟨LA, lc, hv⟩ := own_shape HO.out
              subst hv
              have hsum : (rvS L F j).1.sum + ((rvS L F j).2.length : Int) = L.sum := hI.sum
              have hnn := (sum_nn fun x hx => (rv_nn OK.out j x hx).1).1
              by_cases c0 : 0 < (rvS L F j).1.sum
              · by_cases c1 : (rvS L F j).2.length < F
                · have hjl := rv_sum_end OK.out c1 c0
                  rw [LN.out] at hjl
                  have hm := Nat.mod_lt j (show 0 < n by omega)
                  have hml : j % n < (rvS L F j).1.length := by rw [hI.len, LN.out]; exact hm
                  have hc0 := HL.out.at (j % n) hml
                  have hf0 := HL.out.fz (j % n)
                  obtain ⟨x, hx⟩ : ∃ x, x = (rvS L F j).1[j % n]'hml := ⟨_, rfl⟩
                  rw [← hx] at hc0
                  have hx3 := rv_nn OK.out j x (by rw [hx]; exact List.getElem_mem _)
                  have HT := Lib.hid (rv_turn (L := L) (f := F) j (j % n) (by rw [LN.out]) x (by rw [hx, getD_at hml]) c1)
                  have HS := Lib.hid (fun W z (h : RowI W w.heap.size gl n cl (rvS L F j).1) => h.set (j % n) z)
                  have HST := Lib.hid (fun W z (h : RowI W w.heap.size gl n cl (rvS L F j).1) => h.stored (j % n) z)
                  have HAT := Lib.hid (fun W (h : RowI W w.heap.size gl n cl (rvS L F j).1) => h.at (j % n) hml)
                  rw [← hx] at HAT
                  have HFZ := Lib.hid (fun W (h : RowI W w.heap.size gl n cl (rvS L F j).1) => h.fz (j % n))
                  have HMS : Hid ((((j % n : Nat) : Int) + 1) % (n : Int) = (((j + 1) % n : Nat) : Int)) := by
                    show _ = _
                    rw [mod_succ n j (by omega)]
                    split
                    · rename_i e; rw [show ((j % n : Nat) : Int) + 1 = (n : Int) by omega, Int.emod_self]; rfl
                    · rw [Int.emod_eq_of_lt (by omega) (by omega)]; omega
                  have HSUM : Hid (0 < x → (rvS L F (j + 1)).1.sum = (rvS L F j).1.sum - 1) := by
                    show _ → _
                    intro hp
                    rw [(HT.out.1 hp).1, sum_set _ _ _ hml, ← hx]
                    omega
                  have hfi : (((rvS L F j).2.length : Int) < (F : Int)) := by omega
                  have HML : Hid ((rvS L F j).2.length ≤ 20) := by show _ ≤ _; omega
                  have HJJ := Lib.hid hjl
                  have hm0 : (0 : Int) ≤ ((j % n : Nat) : Int) := by omega
                  have hm1 : ((j % n : Nat) : Int) < (n : Int) := by omega
                  have hl0 : ((n : Int) == 0) = false := by rw [beq_eq_false_iff_ne]; omega
                  have hlN : ((n : Int) = 0) = False := eq_false (by omega)
                  have hsb : (rvS L F j).1.sum ≤ 12000 := by have := HSS.out.2; omega
                  clear hI hml hx hj hjl hsum hmost hnn c1
                  generalize hii : j % n = i at *
                  clear hii
                  generalize hS1 : rvS L F j = S at *
                  clear hS1
                  generalize hSL : S.2.length = m at *
                  generalize hSS1 : S.1.sum = SS at *
                  have HSS1 := Lib.hid hSS1
                  clear hSS1
                  by_cases d0 : 0 < x
                  · obtain ⟨n1, n2⟩ := HT.out.1 d0
                    have N1 := Lib.hid n1
                    have N2 := Lib.hid n2
                    have N3 := Lib.hid (HSUM.out d0)
                    have HM := Lib.hid hSL
                    clear n1 n2 HT hSL HSUM
                    have GN1 := HMS.out
                    have hbig : wo.heap.size ≤ wr.heap.size := HG.out.size
                    go_wp2_with (at_builtin; refine wpList_append_lies _ rfl _ _ 22 rfl wo.heap.size 2 i1 (.int .i64 0) 1 8 Try.underlying22 hj' hy0 hy1 hy2 rfl (by decide) _ _ _ rfl (HO.out.alloc _) ⟨wr.heap.size, 0, none⟩ 1 1 [.int .i64 (i : Int)] rfl rfl ?c1 ?c2 (by decide) ?c3 ?c4 ?c5 (wr.heap.size + 1) (by simp) ?_)
                    case c1 => exact c1_int _ _ _
                    case c2 => intro u hu; simp at hu; subst hu; rfl
                    case c3 => have := HML.out; have := HM.out; unfold maxLen; omega
                    case c4 => have := HML.out; have := HM.out; omega
                    case c5 => simp; omega
                    intro gg cap w2 hown2 hgrow hat hlt2
                    have hkey : ∀ k', (Value.slice LA m lc).ownBlock = some k' → wo.heap.size ≤ k' := fun k' e => (World.ownsRow.lt HO.out k' e).1
                    have HO2 : Hid (Own w2 wo.heap.size (.slice (some ⟨gg, 0, none⟩) (S.2.length + 1) cap) (rvS L F (j + 1)).2) := by
                      show Own _ _ _ _
                      rw [N2.out]
                      unfold Own
                      rw [List.length_append, ← intVals_snoc]; exact hown2
                    have HL2 : Hid (RowI w2 w.heap.size gl n cl S.1) := by
                      show RowI _ _ _ _ _ _
                      refine (HL.out.keep ((Below.refl _ _).alloc (Nat.le_refl _) _)).grown hgrow fun e => ?_
                      have := hkey gl e.symm
                      have := HF.out
                      omega
                    have HG2 : Hid (wo.grownBy w2 (some gl)) := (HG.out.trans (World.grownBy_alloc _ _ _)).andThen hgrow fun k' e => .inl (hkey k' e)
                    have q0 := HAT.out _ HL2.out
                    have q1 := HFZ.out _ HL2.out
                    have HL3 : Hid (RowI (w2.setCell ⟨gl, i, none⟩ (.int .i64 (x - 1))) w.heap.size gl n cl (rvS L F (j + 1)).1) := by
                      show RowI _ _ _ _ _ _
                      rw [N1.out]; exact HS.out _ _ HL2.out
                    have HO3 : Hid (Own (w2.setCell ⟨gl, i, none⟩ (.int .i64 (x - 1))) wo.heap.size (.slice (some ⟨gg, 0, none⟩) (S.2.length + 1) cap) (rvS L F (j + 1)).2) := own_far HO2.out (HST.out _ (x - 1) HL2.out) (fun k' e => by injection e with e; have := HF.out; omega)
                    have HG3 := Lib.hid (HG2.out.trans (HST.out _ (x - 1) HL2.out))
                    clear hown2 hgrow hat hlt2 hkey HO HL HG hc0 hf0 GN1
                    go_wp2_with fail
                    go_roundg (240 - (j + 1))
                    case measure => have := HJJ.out; omega
                    case rel => exact ⟨j + 1, rfl, HJJ.out, by rw [HMS.out], by rw [N3.out], HO3.out, HL3.out, HG3.out⟩
                  · have n1 := HT.out.2 d0
                    have HO1 : Hid (Own wr wo.heap.size (.slice LA m lc) (rvS L F (j + 1)).2) := by show Own _ _ _ _; rw [n1]; exact HO.out
                    have HL1 : Hid (RowI wr w.heap.size gl n cl (rvS L F (j + 1)).1) := by show RowI _ _ _ _ _ _; rw [n1]; exact HL.out
                    have N3 : Hid ((rvS L F (j + 1)).1.sum = SS) := by show _ = _; rw [n1]; exact HSS1.out
                    clear n1 HT hSL HS HST HO HL HSUM
                    go_wp2_with fail
                    go_roundg (240 - (j + 1))
                    case measure => have := HJJ.out; omega
                    case rel => exact ⟨j + 1, rfl, HJJ.out, by rw [HMS.out], by rw [N3.out], HO1.out, HL1.out, HG.out⟩
                · have hff : (rvS L F j).2.length = F := by omega
                  have hF := rvF_is OK.out (rvZ_full hff)
                  have hfi : ¬ (((rvS L F j).2.length : Int) < (F : Int)) := by omega
                  clear hff c1
                  have HU5 : Hid (Own wr wo.heap.size (.slice LA (rvS L F j).2.length lc) (rvF L F).2) := by show Own _ _ _ _; rw [← hF]; exact HO.out
                  have RL5 : Hid (RowI wr w.heap.size gl n cl (rvF L F).1) := by show RowI _ _ _ _ _ _; rw [← hF]; exact HL.out
                  have HSU : Hid ((rvS L F j).1.sum = (rvF L F).1.sum) := by show _ = _; rw [hF]
                  obtain ⟨hok5, hlen5⟩ := rvF_ok OK.out
                  have OK5 := Lib.hid hok5
                  have LN5 := Lib.hid (hlen5.trans LN.out)
                  have OG5 := Lib.hid (OG.out.grown HG.out (fun k e => by injection e with e; have := HG2.out; omega))
                  have BB5 := Lib.hid (BB.out.grown HG.out BB.out.size (fun k e => by injection e with e; have := HGL.out; omega))
                  have HSZ : Hid (W2.heap.size ≤ wo.heap.size ∧ wo.heap.size ≤ wr.heap.size) := ⟨HLO.out, HG.out.size⟩
                  clear hok5 hlen5 hF hI hmost hsum hnn
                  generalize (rvS L F j).2.length = ul at *
                  generalize (rvS L F j).1.sum = SS at *
                  have HR6 : Hid (∀ o : Obj, (wr.alloc o).ownsRow W2.heap.size 22 1 (.slice A acc.length vc) acc.length us) := by
                    show ∀ _, _
                    intro o
                    have := own_below OG5.out.row ((Below.refl wr.heap.size wr).alloc (Nat.le_refl _) o)
                    rwa [HUL.out] at this
                  go_wp2_with (at_builtin; refine wpList_append_lies _ rfl _ _ 31 rfl W2.heap.size 22 i0 (.slice none 0 0) 1 24 Try.underlying31 hi hz0 hz1 hz2 rfl (by decide) _ _ _ rfl (HR6.out _) ⟨wr.heap.size, 0, none⟩ 1 1 [.slice LA ul lc] rfl rfl (src_one _ _ _) (by intro u hu; simp at hu; subst hu; rfl) (by decide) (by have := HLE.out; unfold maxLen; omega) (by have := HLE.out; omega) (by have := HSZ.out; simp; omega) (wr.heap.size + 1) (by simp) ?_)
                  intro gg cap w6 hown6 hgrow hat hlt6
                  have hkey : ∀ k', (Value.slice A acc.length vc).ownBlock = some k' → W2.heap.size ≤ k' ∧ k' < wr.heap.size := fun k' e => World.ownsRow.lt OG5.out.row k' e
                  have OG6 := Lib.hid (OG5.out.snoc (a := (rvF L F).2) HSZ.out.1 HU5.out (by rw [HUL.out]; exact hown6) hgrow)
                  have RL6 : Hid (RowI w6 w.heap.size gl n cl (rvF L F).1) := by
                    show RowI _ _ _ _ _ _
                    refine (RL5.out.keep ((Below.refl _ _).alloc (Nat.le_refl _) _)).grown hgrow fun e => ?_
                    have := (hkey gl e.symm).1
                    have := HG2.out
                    omega
                  have BB6 : Hid (Below w.heap.size w w6) := by
                    show Below _ _ _
                    refine (BB5.out.alloc BB5.out.size _).grown hgrow (by have := BB5.out.size; simp; omega) fun k' e => ?_
                    have := hkey k' e
                    have := HG2.out
                    have := HGL.out
                    omega
                  have HL6 : Hid (W2.heap.size ≤ w6.heap.size) := by
                    show _ ≤ _
                    have := hgrow.size
                    have := HSZ.out
                    simp at *
                    omega
                  clear hown6 hgrow hat hlt6 hkey OG5 RL5 BB5 HU5 HR6 HO HL HG
                  go_wp2_with fail
                  go_roundg (301 - (acc ++ [(rvF L F).2]).length)
                  case measure => have := HLE.out; simp; omega
                  case rel => exact ⟨(rvF L F).1, acc ++ [(rvF L F).2], _, rfl, by have := HLE.out; simp; omega, OK5.out, LN5.out, by rw [HSU.out], HG2x.out, RL6.out, OG6.out, HL6.out, BB6.out⟩
              · have hF := rvF_is OK.out (rvZ_none OK.out c0)
                have HU5 : Hid (Own wr wo.heap.size (.slice LA (rvS L F j).2.length lc) (rvF L F).2) := by show Own _ _ _ _; rw [← hF]; exact HO.out
                have RL5 : Hid (RowI wr w.heap.size gl n cl (rvF L F).1) := by show RowI _ _ _ _ _ _; rw [← hF]; exact HL.out
                have HSU : Hid ((rvS L F j).1.sum = (rvF L F).1.sum) := by show _ = _; rw [hF]
                obtain ⟨hok5, hlen5⟩ := rvF_ok OK.out
                have OK5 := Lib.hid hok5
                have LN5 := Lib.hid (hlen5.trans LN.out)
                have OG5 := Lib.hid (OG.out.grown HG.out (fun k e => by injection e with e; have := HG2.out; omega))
                have BB5 := Lib.hid (BB.out.grown HG.out BB.out.size (fun k e => by injection e with e; have := HGL.out; omega))
                have HSZ : Hid (W2.heap.size ≤ wo.heap.size ∧ wo.heap.size ≤ wr.heap.size) := ⟨HLO.out, HG.out.size⟩
                clear hok5 hlen5 hF hI hmost hsum hnn
                generalize (rvS L F j).2.length = ul at *
                generalize (rvS L F j).1.sum = SS at *
                have HR6 : Hid (∀ o : Obj, (wr.alloc o).ownsRow W2.heap.size 22 1 (.slice A acc.length vc) acc.length us) := by
                  show ∀ _, _
                  intro o
                  have := own_below OG5.out.row ((Below.refl wr.heap.size wr).alloc (Nat.le_refl _) o)
                  rwa [HUL.out] at this
                go_wp2_with (at_builtin; refine wpList_append_lies _ rfl _ _ 31 rfl W2.heap.size 22 i0 (.slice none 0 0) 1 24 Try.underlying31 hi hz0 hz1 hz2 rfl (by decide) _ _ _ rfl (HR6.out _) ⟨wr.heap.size, 0, none⟩ 1 1 [.slice LA ul lc] rfl rfl (src_one _ _ _) (by intro u hu; simp at hu; subst hu; rfl) (by decide) (by have := HLE.out; unfold maxLen; omega) (by have := HLE.out; omega) (by have := HSZ.out; simp; omega) (wr.heap.size + 1) (by simp) ?_)
                intro gg cap w6 hown6 hgrow hat hlt6
                have hkey : ∀ k', (Value.slice A acc.length vc).ownBlock = some k' → W2.heap.size ≤ k' ∧ k' < wr.heap.size := fun k' e => World.ownsRow.lt OG5.out.row k' e
                have OG6 := Lib.hid (OG5.out.snoc (a := (rvF L F).2) HSZ.out.1 HU5.out (by rw [HUL.out]; exact hown6) hgrow)
                have RL6 : Hid (RowI w6 w.heap.size gl n cl (rvF L F).1) := by
                  show RowI _ _ _ _ _ _
                  refine (RL5.out.keep ((Below.refl _ _).alloc (Nat.le_refl _) _)).grown hgrow fun e => ?_
                  have := (hkey gl e.symm).1
                  have := HG2.out
                  omega
                have BB6 : Hid (Below w.heap.size w w6) := by
                  show Below _ _ _
                  refine (BB5.out.alloc BB5.out.size _).grown hgrow (by have := BB5.out.size; simp; omega) fun k' e => ?_
                  have := hkey k' e
                  have := HG2.out
                  have := HGL.out
                  omega
                have HL6 : Hid (W2.heap.size ≤ w6.heap.size) := by
                  show _ ≤ _
                  have := hgrow.size
                  have := HSZ.out
                  simp at *
                  omega
                clear hown6 hgrow hat hlt6 hkey OG5 RL5 BB5 HU5 HR6 HO HL HG
                go_wp2_with fail
                go_roundg (301 - (acc ++ [(rvF L F).2]).length)
                case measure => have := HLE.out; simp; omega
                case rel => exact ⟨(rvF L F).1, acc ++ [(rvF L F).2], _, rfl, by have := HLE.out; simp; omega, OK5.out, LN5.out, by rw [HSU.out], HG2x.out, RL6.out, OG6.out, HL6.out, BB6.out⟩
        · have HE : Hid (VV = acc ∧ KK = true) := by
            refine HY.out acc ?_
            rw [hG.out]
            exact rvG_stop hp
          clear hG
          go_wp2_with fail
          go_ret2
          first | exact ⟨_, _, ret_vb HE.out.2.symm, by rw [HE.out.1]; exact OG.out.base (by have := HG2.out; have := HGL.out; omega), BB.out⟩ | exact ⟨_, ret_vb HE.out.2.symm, ⟨_, by rw [HE.out.1]; exact OG.out.base (by have := HG2.out; have := HGL.out; omega)⟩, BB.out⟩
end Go.Proofs.Ytjhgkkecconcaab
