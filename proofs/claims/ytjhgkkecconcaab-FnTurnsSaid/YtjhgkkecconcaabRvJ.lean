/- The program's ReserveSlots. -/
import Derived.Test.YtjhgkkecconcaabRvI
namespace Go.Proofs.Ytjhgkkecconcaab
open Go Go.RowKit
set_option linter.unusedVariables false

def rvV (l : List Int) (f : Int) : List (List Int) := (rvO l f).getD []
def rvK (l : List Int) (f : Int) : Bool := (rvO l f).isSome
theorem rvV_no {l : List Int} {f : Int} (h : rvO l f = none) : rvV l f = [] ∧ rvK l f = false := by unfold rvV rvK; rw [h]; exact ⟨rfl, rfl⟩
theorem rvV_yes {l : List Int} {f : Int} {g : List (List Int)} (h : rvO l f = some g) : rvV l f = g ∧ rvK l f = true := by unfold rvV rvK; rw [h]; exact ⟨rfl, rfl⟩
theorem ret_vb {v : Value} {c d : Bool} (h : c = d) : Ending.returned (.tuple #[v, .bool c]) = .returned (.tuple #[v, .bool d]) := by rw [h]
set_option maxRecDepth 100000 in
set_option maxHeartbeats 2000000 in
theorem reserve_impl (w : World) (v : Value) (l : List Int) (f : Int) (h : Rd w v l) :
    Calls Try.prog 24 #[v, .int .i64 f] w fun e w' => ∃ u us, e = .returned (.tuple #[u, .bool (rvK l f)]) ∧ OwnG w' w.heap.size w'.heap.size u us (rvV l f) ∧ Below w.heap.size w w' := by
  have HT0 := Lib.hid (areNeeds_any w v l h)
  have HT1 := Lib.hid (isWindow_any f w)
  cases g0 : ndB l
  · obtain ⟨e1, e2⟩ := rvV_no (rvO_no (l := l) (f := f) (.inl g0)); rw [e1, e2]; clear e1 e2
    rw [g0] at HT0
    clear g0 HT1
    go_enter Try.func24, Try.ntmps24
    go_wp2_with fail
    refine HT0.out.mono ?_; rintro e w' ⟨rfl, rfl⟩
    go_wp2_with fail
    go_ret2
    exact ⟨_, _, rfl, ownG_nil _ _, Below.refl _ _⟩
  cases g1 : rgB 1 20 f
  · obtain ⟨e1, e2⟩ := rvV_no (rvO_no (l := l) (f := f) (.inr g1)); rw [e1, e2]; clear e1 e2
    rw [g0] at HT0
    rw [g1] at HT1
    clear g0 g1
    go_enter Try.func24, Try.ntmps24
    go_wp2_with fail
    refine HT0.out.mono ?_; rintro e w' ⟨rfl, rfl⟩
    go_wp2_with fail
    refine HT1.out.mono ?_; rintro e w' ⟨rfl, rfl⟩
    go_wp2_with fail
    go_ret2
    exact ⟨_, _, rfl, ownG_nil _ _, Below.refl _ _⟩
  obtain ⟨hok, ef, eo⟩ := rvO_yes g0 g1
  have HY := Lib.hid (fun g (e : rvG f.toNat 300 l [] = some g) => rvV_yes (eo.trans e))
  have HNO := Lib.hid (fun (e : rvG f.toNat 300 l [] = none) => rvV_no (eo.trans e))
  generalize hVV : rvV l f = VV at *
  generalize hKK : rvK l f = KK at *
  clear hVV hKK
  obtain ⟨F, hF⟩ : ∃ F : Nat, F = f.toNat := ⟨_, rfl⟩
  rw [← hF] at hok ef HY HNO
  clear hF
  subst ef
  rw [g0] at HT0
  rw [g1] at HT1
  clear eo g0 g1
  have HOK := Lib.hid hok
  obtain ⟨p1, p2, p3, p4, p5⟩ := hok
  have HH := Lib.hid h
  have HCP := Lib.hid (fun W hW => cloneP_any W v l hW p1 (by omega))
  obtain ⟨b, o, c, rfl, hlt0, hc⟩ := rd_posR h p1
  obtain ⟨i0, hi, hz0, hz1, hz2⟩ := info_parts Try.infoRow
  clear hc p3 h
  go_enter Try.func24, Try.ntmps24
  go_wp2_with fail
  refine HT0.out.mono ?_; rintro e w' ⟨rfl, rfl⟩
  go_wp2_with fail
  refine HT1.out.mono ?_; rintro e w' ⟨rfl, rfl⟩
  go_wp2_with fail
  refine (HCP.out _ HH.out).mono ?_; rintro e w1 ⟨u1, rfl, ho1, hb1⟩
  obtain ⟨gl, cl, rfl, hrow⟩ := RowI.of ho1 p1
  have R1 := Lib.hid hrow
  have B1 := Lib.hid hb1
  have HGL : Hid (w.heap.size ≤ gl ∧ gl < w1.heap.size) := ⟨hrow.2.2.1, hrow.2.2.2⟩
  clear ho1 hrow hb1 HT0 HT1 HCP HH
  go_wp2_with fail
  generalize hn : l.length = n at *
  have HN := Lib.hid hn
  clear hn
  go_loopg [7] 301 (fun m v wr => ∃ (L : List Int) (acc : List (List Int)) (us : List Value), m = 301 - acc.length ∧ acc.length ≤ 300 ∧ rvOk L F ∧ L.length = n ∧ Hid (rvG F 300 l [] = rvG F (300 - acc.length) L acc) ∧ RowI wr w.heap.size gl n cl L ∧ OwnG wr w1.heap.size wr.heap.size v us acc ∧ w1.heap.size ≤ wr.heap.size ∧ Below w.heap.size w wr)
  case atStart => exact ⟨l, [], [], rfl, by simp, HOK.out, HN.out, rfl, R1.out, ownG_nil _ _, Nat.le_refl _, B1.out⟩
  case round =>
    obtain ⟨L, acc, us, rfl, hal, hokL, hLn, hG, hrl, hog, hlo, hbb⟩ := hrel
    have HLO := Lib.hid hlo
    have OK := Lib.hid hokL
    have RL := Lib.hid hrl
    have OG := Lib.hid hog
    have BB := Lib.hid hbb
    have LN := Lib.hid hLn
    have HMAX := Lib.hid (fun W h => max_any W (.slice (some ⟨gl, 0, none⟩) n cl) L h (by have := hokL.1; omega))
    have HPOS := Lib.hid (fun M h1 h2 => rv_pos_max hokL.2.2.1 (M := M) h1 h2)
    obtain ⟨A, vc, hv⟩ := own_shape OG.out.row
    have hul : us.length = acc.length := OG.out.len
    rw [hul] at hv
    subst hv
    have HAL := Lib.hid hal
    have HUL := Lib.hid hul
    clear hokL hrl hog hbb R1 B1 hLn hul hlo
    go_wp2_with fail
    refine (HMAX.out _ RL.out.rd).mono ?_; rintro e w' ⟨M, rfl, hM, rfl⟩
    have HP := Lib.hid (HPOS.out M hM.1 hM.2)
    clear hM HPOS HMAX
    by_cases hp : 0 < M
    · have HS : Hid (0 < L.sum) := HP.out.1 hp
      by_cases hfull : acc.length = 300
      · have HE : Hid (VV = [] ∧ KK = false) := by
          refine HNO.out ?_
          have := hG.out
          rw [hfull] at this
          rw [this]
          exact rvG_full HS.out
        have h300 : (acc.length : Int) = 300 := by omega
        clear hal hfull hG
        generalize acc.length = m at *
        go_wp2_with fail
        go_ret2
        exact ⟨_, _, ret_vb HE.out.2.symm, by rw [HE.out.1]; exact ownG_nil _ _, BB.out⟩
      · have h300 : ¬ ((acc.length : Int) = 300) := by omega
        have HG2 : Hid (rvG F 300 l [] = rvG F (300 - (acc ++ [(rvF L F).2]).length) (rvF L F).1 (acc ++ [(rvF L F).2])) := by
          show _ = _
          have e := hG.out
          rw [show 300 - acc.length = (300 - (acc ++ [(rvF L F).2]).length) + 1 by simp; omega, rvG_go HS.out] at e
          exact e
        have HFR := Lib.hid (fun W h => reserveFrame_any W w.heap.size gl n cl L F h OK.out)
        have HLE : Hid (acc.length < 300) := by show _ < _; omega
        clear hal hfull hG
        go_wp2_with fail
        refine (HFR.out _ RL.out).mono ?_; rintro e w5 ⟨u, rfl, hu, hrl5, hg5⟩
        obtain ⟨hok5, hlen5⟩ := rvF_ok OK.out
        have OK5 := Lib.hid hok5
        have LN5 := Lib.hid (hlen5.trans LN.out)
        obtain ⟨UA, uc, rfl⟩ := own_shape hu
        have HU5 := Lib.hid hu
        generalize hul : (rvF L F).2.length = ul at *
        have HUU := Lib.hid hul
        clear hul
        have RL5 := Lib.hid hrl5
        have OG5 := Lib.hid (OG.out.grown hg5 (fun k e => by injection e with e; have := HGL.out; omega))
        have BB5 := Lib.hid (BB.out.grown hg5 BB.out.size (fun k e => by injection e with e; have := HGL.out; omega))
        have HSZ : Hid (w1.heap.size ≤ wr.heap.size ∧ wr.heap.size ≤ w5.heap.size) := by
          refine ⟨?_, hg5.size⟩
          exact HLO.out
        clear hok5 hlen5 hu hrl5 hg5 RL OG BB HFR
        have HR6 : Hid (∀ o : Obj, (w5.alloc o).ownsRow w1.heap.size 22 1 (.slice A acc.length vc) acc.length us) := by
          show ∀ _, _
          intro o
          have := own_below OG5.out.row ((Below.refl w5.heap.size w5).alloc (Nat.le_refl _) o)
          rwa [HUL.out] at this
        go_wp2_with (at_builtin; refine wpList_append_lies _ rfl _ _ 31 rfl w1.heap.size 22 i0 (.slice none 0 0) 1 24 Try.underlying31 hi hz0 hz1 hz2 rfl (by decide) _ _ _ rfl (HR6.out _) ⟨w5.heap.size, 0, none⟩ 1 1 [.slice UA ul uc] rfl rfl ?c1 ?c2 (by decide) ?c3 ?c4 ?c5 (w5.heap.size + 1) (by simp) ?_)
        case c1 => exact src_one _ _ _
        case c2 => intro u hu; simp at hu; subst hu; rfl
        case c3 => have := HLE.out; unfold maxLen; omega
        case c4 => have := HLE.out; omega
        case c5 => have := HSZ.out; simp; omega
        intro gg cap w6 hown6 hgrow hat hlt6
        have hrow : (OG5.out.row).1 = (OG5.out.row).1 := rfl
        have hkey : ∀ k', (Value.slice A acc.length vc).ownBlock = some k' → w1.heap.size ≤ k' ∧ k' < w5.heap.size := fun k' e => World.ownsRow.lt OG5.out.row k' e
        have OG6 := Lib.hid (OG5.out.snoc (a := (rvF L F).2) HSZ.out.1 HU5.out (by rw [HUL.out]; exact hown6) hgrow)
        have RL6 : Hid (RowI w6 w.heap.size gl n cl (rvF L F).1) := by
          show RowI _ _ _ _ _ _
          refine (RL5.out.keep ((Below.refl _ _).alloc (Nat.le_refl _) _)).grown hgrow fun e => ?_
          have := (hkey gl e.symm).1
          have := HGL.out
          omega
        have BB6 : Hid (Below w.heap.size w w6) := by
          show Below _ _ _
          refine (BB5.out.alloc BB5.out.size _).grown hgrow (by have := BB5.out.size; simp; omega) fun k' e => ?_
          have := hkey k' e
          have := HGL.out
          omega
        have HL6 : Hid (w1.heap.size ≤ w6.heap.size) := by
          show _ ≤ _
          have := hgrow.size
          have := HSZ.out
          simp at *
          omega
        clear hown6 hgrow hat hlt6 hkey hrow OG5 RL5 BB5 HU5 HR6
        go_wp2_with fail
        go_roundg (301 - (acc ++ [(rvF L F).2]).length)
        case measure => have := HLE.out; simp; omega
        case rel => exact ⟨(rvF L F).1, acc ++ [(rvF L F).2], _, rfl, by have := HLE.out; simp; omega, OK5.out, LN5.out, HG2.out, RL6.out, OG6.out, HL6.out, BB6.out⟩
    · have HE : Hid (VV = acc ∧ KK = true) := by
        refine HY.out acc ?_
        rw [hG.out]
        exact rvG_stop (fun h => hp (HP.out.2 h))
      clear hG
      go_wp2_with fail
      go_ret2
      exact ⟨_, _, ret_vb HE.out.2.symm, by rw [HE.out.1]; exact OG.out.base (by have := HGL.out; omega), BB.out⟩
end Go.Proofs.Ytjhgkkecconcaab
