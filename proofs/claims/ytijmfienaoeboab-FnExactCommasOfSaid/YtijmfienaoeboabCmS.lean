/- The model's IsComma. -/
import Derived.Test.YtijmfienaoeboabCmP
import Derived.Test.YtijmfienaoeboabBi
import Derived.Test.YtijmfienaoeboabSrp
import Derived.Test.YtijmfienaoeboabBl
import Derived.Test.YtijmfienaoeboabAt0
import Derived.Laws.Concat
namespace Go.Proofs.Ytijmfienaoeboab
open Go Go.RowKit
set_option linter.unusedVariables false

theorem lst_st (w : World) (b : Nat) (d wd : Int) (vm vp : Value) (s : Int) (hs : s = -1 ∨ s = 1) (hc : Bk w b (bcV d wd vm vp)) :
    Calls Try.prog 118 #[.pointer (some ⟨b, 0, none⟩), .int .i64 s] w fun e w' => e = .returned (if s = -1 then vm else vp) ∧ w = w' := by
  have c2 := hc.c 2 _ rfl
  have c3 := hc.c 3 _ rfl
  clear hc
  rcases hs with rfl | rfl
  · go_enter Try.func118, Try.ntmps118
    go_wp2_with fail
    go_ret
    exact ⟨rfl, rfl⟩
  · go_enter Try.func118, Try.ntmps118
    go_wp2_with fail
    go_ret
    exact ⟨rfl, rfl⟩
theorem next_ex (s : Int) (x : ByteArray) (w : World) (hx : isB x.data.toList = true) :
    Calls Try.prog 119 #[.int .i64 s, .string x] w fun e w' => e = .returned (.int .i64 (nxS s x)) ∧ w = w' := by
  have hs : x.size ≤ 400 := by have := (isB_parts hx).1; simpa using this
  have hd := fun W => l03Disparity_gen x W (by omega)
  rw [disW_bits hx] at hd
  have HD := Lib.hid hd
  have hn : nxS s x = if 0 < disL x.data.toList then 1 else if disL x.data.toList < 0 then -1 else s := rfl
  clear hd hx hs
  generalize disL x.data.toList = D at *
  by_cases h1 : 0 < D
  · have HE : Hid (nxS s x = 1) := by show _ = _; rw [hn, if_pos h1]
    clear hn
    go_enter Try.func119, Try.ntmps119
    go_wp2_with fail
    refine (HD.out _).mono ?_; rintro e w' ⟨rfl, rfl⟩
    go_wp2_with fail
    go_ret
    exact ⟨ret_int HE.out.symm, rfl⟩
  · by_cases h2 : D < 0
    · have HE : Hid (nxS s x = -1) := by show _ = _; rw [hn, if_neg h1, if_pos h2]
      clear hn
      go_enter Try.func119, Try.ntmps119
      go_wp2_with fail
      refine (HD.out _).mono ?_; rintro e w' ⟨rfl, rfl⟩
      go_wp2_with fail
      go_ret
      exact ⟨ret_int HE.out.symm, rfl⟩
    · have HE : Hid (nxS s x = s) := by show _ = _; rw [hn, if_neg h1, if_neg h2]
      clear hn
      go_enter Try.func119, Try.ntmps119
      go_wp2_with fail
      refine (HD.out _).mono ?_; rintro e w' ⟨rfl, rfl⟩
      go_wp2_with fail
      go_ret
      exact ⟨ret_int HE.out.symm, rfl⟩

theorem anyB_no {α : Type} (f : α → Bool) (l : List α) (k : Nat) (h : k < l.length) (h0 : (l.take k).any f = false) (hk : f l[k] = false) : (l.take (k + 1)).any f = false := by
  rw [List.take_succ_eq_append_getElem h, List.any_append, h0]; simp [hk]
theorem anyB_yes {α : Type} (f : α → Bool) (l : List α) (k : Nat) (h : k < l.length) (hk : f l[k] = true) : l.any f = true := by
  rw [List.any_eq_true]; exact ⟨_, List.getElem_mem h, hk⟩
theorem atB_rng (both pat : List UInt8) (n : Nat) (hn : n = both.length) : atB both pat = (List.range n).any fun i => Lib.occAt both pat i := by subst hn; rfl

set_option maxRecDepth 100000 in
set_option maxHeartbeats 4000000 in
theorem l03Occurs_any (W : World) (bk : Nat) (d wd : Int) (A1 A2 : Option Addr) (n1 n2 c1 c2 : Nat) (m p : List ByteArray) (pat : ByteArray) (hK : Bk W bk (bcV d wd (.slice A1 n1 c1) (.slice A2 n2 c2))) (hm : RdS W (.slice A1 n1 c1) m) (hp : RdS W (.slice A2 n2 c2) p) (hok : bcOk d wd m p = true) (hpat : pat.size ≤ 400) (hpn : pat.data.toList ≠ []) (lm : m.length ≤ 4000000) (lp : p.length ≤ 4000000) :
    Calls Try.prog 114 #[.pointer (some ⟨bk, 0, none⟩), .string pat] W fun e w' => e = .returned (.bool (mcB m p pat.data.toList)) ∧ ∃ q, w' = W.drewN q := by
  obtain ⟨hw12, om, op⟩ := bcOk_parts hok
  have sel : ∀ s : Int, (s = -1 ∨ s = 1) → ∃ A n c, (if s = -1 then (.slice A1 n1 c1 : Value) else .slice A2 n2 c2) = .slice A n c ∧ RdS W (.slice A n c) (wl m p s) ∧ (wl m p s).length = n ∧ n ≤ 4000000 ∧ ∀ x ∈ wl m p s, isB x.data.toList = true ∧ x.size ≤ 12 := by
    intro s hs
    rcases hs with rfl | rfl
    · have := hm
      obtain ⟨A, n, c, e, hl, -⟩ := this
      cases e
      exact ⟨_, _, _, rfl, hm, hl, by rw [← hl]; exact lm, fun x hx => ⟨(wordOk_parts (om x hx)).1, (wordOk_bits (om x hx) hw12).2⟩⟩
    · have := hp
      obtain ⟨A, n, c, e, hl, -⟩ := this
      cases e
      exact ⟨_, _, _, rfl, hp, hl, by rw [← hl]; exact lp, fun x hx => ⟨(wordOk_parts (op x hx)).1, (wordOk_bits (op x hx) hw12).2⟩⟩
  have SEL := Lib.hid sel
  have HLI := Lib.hid (fun s hs q => lst_st (W.drewN q) bk d wd _ _ s hs (hK.drewN q))
  have HNX := Lib.hid (fun s x W hx => next_ex s x W hx)
  have HAT := Lib.hid (fun b k W h1 h2 => l01AtX_any b pat k W h1 hpat h2 hpn)
  clear sel hK hm hp hok om op lm lp
  go_enter Try.func114, Try.ntmps114
  go_wp2_with fail
  go_loopw [5] (fun t wr => ∃ k q : Nat, k ≤ 2 ∧ t = .int .i64 (2 * (k : Int) - 1) ∧ wr = W.drewN q ∧ (0 < k → m.any (moB m p pat.data.toList (-1)) = false) ∧ (1 < k → p.any (moB m p pat.data.toList 1) = false)) (fun t _ => (3 - intOf t).toNat)
  case atStart => exact ⟨0, 0, by omega, rfl, rfl, fun h => by omega, fun h => by omega⟩
  case round =>
    obtain ⟨k, q, hk, rfl, rfl, hf0, hf1⟩ := hrel
    have HF0 := Lib.hid hf0
    have HF1 := Lib.hid hf1
    clear hf0 hf1
    by_cases hlt : k < 2
    · obtain ⟨s, es, hs⟩ : ∃ s : Int, s = 2 * (k : Int) - 1 ∧ (s = -1 ∨ s = 1) := ⟨_, rfl, by omega⟩
      obtain ⟨A, n, c, eV, hr, hn, hn4, hxs⟩ := SEL.out s hs
      have HL := Lib.hid (HLI.out s hs)
      rw [eV] at HL
      rw [← es]
      have HES := Lib.hid es
      have HS := Lib.hid hs
      have HR := Lib.hid hr
      have HN := Lib.hid hn
      have HXS := Lib.hid hxs
      obtain ⟨hs0, hs1⟩ : -1 ≤ s ∧ s ≤ 1 := by omega
      have HLT := Lib.hid hlt
      clear es hs eV hr hn hxs hlt hk
      go_wp2_with fail
      refine (HL.out _).mono ?_; rintro e w1 ⟨rfl, rfl⟩
      clear HL
      go_wp2_with fail
      go_loopw [7] (fun t wr => ∃ i q : Nat, i ≤ n ∧ t = .int .i64 i ∧ wr = W.drewN q ∧ ((wl m p s).take i).any (moB m p pat.data.toList s) = false) (fun t _ => n - (intOf t).toNat)
      case atStart => exact ⟨0, q, Nat.zero_le _, rfl, rfl, rfl⟩
      case round =>
        obtain ⟨i, q, hi0, rfl, rfl, hfi⟩ := hrel
        have HFI := Lib.hid hfi
        clear hfi
        by_cases hlt2 : i < n
        · have hil : i < (wl m p s).length := by rw [HN.out]; exact hlt2
          obtain ⟨A, nn, cc, e, -, -, -, hcs⟩ := HR.out
          cases e
          obtain ⟨g, o, rfl, hgl, hc⟩ := hcs (by omega)
          have hc0 := hc i hil
          have hx0 : (0 : Int) ≤ (i : Int) := by omega
          have hx1 : (i : Int) < (n : Int) := by omega
          obtain ⟨hyb, hy12⟩ := HXS.out _ (List.getElem_mem hil)
          have HYM := Lib.hid (List.getElem_mem hil)
          have HAN := Lib.hid (anyB_no (moB m p pat.data.toList s) (wl m p s) i hil HFI.out)
          clear hc hcs
          generalize (wl m p s)[i] = y at *
          obtain ⟨A', n', c', eV', hr', hn', hn4', hxs'⟩ := SEL.out (nxS s y) (nxS_st s y HS.out)
          have HL' := Lib.hid (HLI.out (nxS s y) (nxS_st s y HS.out))
          rw [eV'] at HL'
          have HNY := Lib.hid (fun W => HNX.out s y W hyb)
          have HR' := Lib.hid hr'
          have HN' := Lib.hid hn'
          have HXS' := Lib.hid hxs'
          have HI1 := Lib.hid hlt2
          have HMO : Hid (moB m p pat.data.toList s y = (wl m p (nxS s y)).any fun z => atB (y.data.toList ++ z.data.toList) pat.data.toList) := rfl
          clear eV' hr' hn' hxs' hlt2 hil hyb
          have hub : -1 ≤ nxS s y ∧ nxS s y ≤ 1 := by rcases nxS_st s y HS.out with h | h <;> omega
          obtain ⟨hu0, hu1⟩ := hub
          generalize hgu : nxS s y = u at *
          clear hgu
          go_wp2_with fail
          refine (HNY.out _).mono ?_; rintro e w2 ⟨rfl, rfl⟩
          go_wp2_with fail
          refine (HL'.out _).mono ?_; rintro e w3 ⟨rfl, rfl⟩
          go_wp2_with fail
          go_loopw [9] (fun t wr => ∃ j q : Nat, j ≤ n' ∧ t = .int .i64 j ∧ wr = W.drewN q ∧ ((wl m p u).take j).any (fun z => atB (y.data.toList ++ z.data.toList) pat.data.toList) = false) (fun t _ => n' - (intOf t).toNat)
          case atStart => exact ⟨0, q, Nat.zero_le _, rfl, rfl, rfl⟩
          case round =>
            obtain ⟨j, q, hj0, rfl, rfl, hfj⟩ := hrel
            have HFJ := Lib.hid hfj
            clear hfj
            by_cases hlt3 : j < n'
            · have hjl : j < (wl m p u).length := by rw [HN'.out]; exact hlt3
              obtain ⟨A', nn', cc', e, -, -, -, hcs'⟩ := HR'.out
              cases e
              obtain ⟨g', o', rfl, hgl', hc'⟩ := hcs' (by omega)
              have hc0' := hc' j hjl
              have hy0 : (0 : Int) ≤ (j : Int) := by omega
              have hy1 : (j : Int) < (n' : Int) := by omega
              obtain ⟨hzb, hz12⟩ := HXS'.out _ (List.getElem_mem hjl)
              have HZM := Lib.hid (List.getElem_mem hjl)
              have HAJ := Lib.hid (anyB_no (fun z : ByteArray => atB (y.data.toList ++ z.data.toList) pat.data.toList) (wl m p u) j hjl HFJ.out)
              clear hc' hcs'
              generalize (wl m p u)[j] = z at *
              have HJ1 := Lib.hid hlt3
              have hbs : (y ++ z).size = y.size + z.size := by simp
              have hbl : (y ++ z).data.toList = y.data.toList ++ z.data.toList := by simp [ByteArray.data_append]
              have r1 : ∀ W : World, (Op.stringOp .add y z).run Try.prog W = .ok (.string (y ++ z)) W := fun W => run_string_add_sum W _ _ (by omega)
              obtain ⟨B, hB⟩ : ∃ B, B = y ++ z := ⟨_, rfl⟩
              rw [← hB] at hbs hbl r1
              have HBL := Lib.hid hbl
              have hB24 : B.size ≤ 24 := by omega
              have HATB := Lib.hid (fun k W h2 => HAT.out B k W (by omega) h2)
              clear hB hbs hbl hlt3 hjl hzb
              go_wp2_with fail
              go_quiet (fail)
              go_wp2_with fail
              go_loopw [11] (fun t wr => ∃ a q : Nat, a ≤ B.size ∧ t = .int .i64 a ∧ wr = W.drewN q ∧ ((List.range a).any fun i => Lib.occAt B.data.toList pat.data.toList i) = false) (fun t _ => B.size - (intOf t).toNat)
              case atStart => exact ⟨0, q + nq, Nat.zero_le _, rfl, by first | rfl | simp, rfl⟩
              case round =>
                obtain ⟨a, q, ha0, rfl, rfl, hfa⟩ := hrel
                have HFA := Lib.hid hfa
                clear hfa
                by_cases hlt4 : a < B.size
                · have HCA := Lib.hid (fun W => HATB.out a W (by omega))
                  cases hoc : Lib.occAt B.data.toList pat.data.toList a
                  · rw [hoc] at HCA
                    have HNA : Hid (((List.range (a + 1)).any fun i => Lib.occAt B.data.toList pat.data.toList i) = false) := by
                      show _ = _
                      rw [List.range_succ, List.any_append, HFA.out]; simp [hoc]
                    clear hoc
                    go_wp2_with fail
                    refine (HCA.out _).mono ?_; rintro e w5 ⟨rfl, rfl⟩
                    go_wp2_with fail
                    go_roundw
                    case rel => exact ⟨a + 1, q, by omega, by go_num, rfl, HNA.out⟩
                    case measure => simp [intOf]; omega
                  · rw [hoc] at HCA
                    have HMC : Hid (mcB m p pat.data.toList = true) := by
                      refine (mcB_iff _ _ _).2 ⟨s, y, HS.out, HYM.out, ?_⟩
                      rw [HMO.out, List.any_eq_true]
                      refine ⟨z, HZM.out, ?_⟩
                      unfold atB
                      rw [List.any_eq_true, ← HBL.out]
                      exact ⟨a, List.mem_range.2 (by simpa using hlt4), hoc⟩
                    clear hoc
                    go_wp2_with fail
                    refine (HCA.out _).mono ?_; rintro e w5 ⟨rfl, rfl⟩
                    go_wp2_with fail
                    go_ret
                    exact ⟨ret_bool HMC.out.symm, _, rfl⟩
                · obtain rfl : a = B.size := by omega
                  have HZ : Hid (((wl m p u).take (j + 1)).any (fun z => atB (y.data.toList ++ z.data.toList) pat.data.toList) = false) := by
                    refine HAJ.out ?_
                    show atB _ _ = false
                    rw [← HBL.out, atB_rng _ _ B.size (by simp)]
                    exact HFA.out
                  go_wp2_with fail
                  go_roundw
                  case rel => exact ⟨j + 1, _, HJ1.out, by go_num, rfl, HZ.out⟩
                  case measure => simp [intOf]; omega
            · obtain rfl : j = n' := by omega
              have HZ : Hid (((wl m p s).take (i + 1)).any (moB m p pat.data.toList s) = false) := by
                refine HAN.out ?_
                rw [HMO.out]
                have h := HFJ.out
                rwa [List.take_of_length_le (by rw [HN'.out]; exact Nat.le_refl _)] at h
              go_wp2_with fail
              go_roundw
              case rel => exact ⟨i + 1, q, HI1.out, by go_num, rfl, HZ.out⟩
              case measure => simp [intOf]; omega
        · obtain rfl : i = n := by omega
          have HW : Hid ((wl m p s).any (moB m p pat.data.toList s) = false) := by
            show _ = _
            have h := HFI.out
            rwa [List.take_of_length_le (by rw [HN.out]; exact Nat.le_refl _)] at h
          have HK0 : Hid (0 < k + 1 → m.any (moB m p pat.data.toList (-1)) = false) := by
            show _ → _
            intro _
            rcases (show k = 0 ∨ k = 1 from by have := HLT.out; omega) with h | h
            · have e : s = -1 := by rw [HES.out, h]; rfl
              have := HW.out
              rw [e] at this
              exact this
            · exact HF0.out (by omega)
          have HK1 : Hid (1 < k + 1 → p.any (moB m p pat.data.toList 1) = false) := by
            show _ → _
            intro h0
            have h : k = 1 := by have := HLT.out; omega
            have e : s = 1 := by rw [HES.out, h]; rfl
            have := HW.out
            rw [e] at this
            exact this
          go_wp2_with fail
          go_roundw
          case rel => exact ⟨k + 1, q, HLT.out, by rw [HES.out]; go_num, rfl, HK0.out, HK1.out⟩
          case measure => simp [intOf]; omega
    · obtain rfl : k = 2 := by omega
      have HMC : Hid (mcB m p pat.data.toList = false) := by show _ = _; unfold mcB; rw [HF0.out (by omega), HF1.out (by omega)]; rfl
      go_wp2_with fail
      go_ret
      exact ⟨ret_bool HMC.out.symm, _, rfl⟩
end Go.Proofs.Ytijmfienaoeboab
