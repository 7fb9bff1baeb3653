/- The program's machine that unescapes bytes: readByte, readEscaped. -/
import Derived.Test.YtjmaapbodacggaaUes
import Derived.Test.YtjmaapbodacggaaRbj
namespace Go.Proofs.Ytjmaapbodacggaa
open Go Go.RowKit
set_option linter.unusedVariables false

theorem rdv_of_rd {w : World} {v : Value} {l : List Int} (h : Rd w v l) : RdV (· < w.heap.size) w v (intVals l) := by
  obtain ⟨A, n, c, e, hn, h1, h2, h3⟩ := h
  refine ⟨A, n, c, e, by simpa [intVals] using hn, h1, by omega, fun h0 => ?_⟩
  obtain ⟨b, o, ea, hlt, hc⟩ := h3 h0
  refine ⟨b, o, ea, hlt, hlt, fun i x hx => ?_⟩
  unfold intVals at hx
  rw [List.getElem?_map] at hx
  cases e : l[i]? with
  | none => rw [e] at hx; cases hx
  | some y =>
    rw [e] at hx
    obtain ⟨hi, rfl⟩ := List.getElem?_eq_some_iff.1 e
    injection hx with hx
    subst hx
    exact hc i hi
def rbV (ub : Nat) : Value := .func (.func 76) #[.pointer (some ⟨ub, 0, none⟩)] #[]
def reV (ub : Nat) : Value := .func (.func 124) #[.pointer (some ⟨ub, 0, none⟩)] #[]
/-- What the machine holds. -/
structure UU (w0 : World) (ub : Nat) (vs : Value) (R Q : List Int) (wh : Bool) (wr : World) : Prop where
  cells : ∃ vr vp, Blk wr ub 83 [vs, vr, vp, .bool wh] ∧ RdV (· < w0.heap.size) wr vr (intVals R) ∧ Own wr (ub + 1) vp Q
  bel : Below w0.heap.size w0 wr
  low : w0.heap.size ≤ ub
  siz : ub + 1 ≤ wr.heap.size
theorem UU.set {w0 wr : World} {ub : Nat} {vs vr vp x : Value} {R R' Q Q' : List Int} {wh wh' : Bool} (hb : Below w0.heap.size w0 wr) (hl : w0.heap.size ≤ ub) (hz : ub + 1 ≤ wr.heap.size) (j : Nat) (y1 y2 : Value)
    (hk : Blk (wr.setCell ⟨ub, j, none⟩ x) ub 83 [vs, y1, y2, .bool wh']) (hr : RdV (· < w0.heap.size) wr y1 (intVals R')) (ho : Own wr (ub + 1) y2 Q') : UU w0 ub vs R' Q' wh' (wr.setCell ⟨ub, j, none⟩ x) := by
  refine ⟨⟨y1, y2, hk, hr.set _ _ _ (by omega), ?_⟩, hb.setCell (p := ⟨ub, j, none⟩) hl _, hl, by simpa [World.setCell] using hz⟩
  refine World.ownsRow.kept (row := some ub) ho ⟨rfl, rfl, rfl, by simp [World.setCell], fun k _ hk => Below.heap_setCell _ _ _ _ (fun e => hk (by simp [e]))⟩ (Or.inr (fun e => ?_))
  have := (World.ownsRow.lt ho ub e).1
  omega
def St (ub : Nat) (sp l R Q : List Int) (wh : Bool) (f : Value) : Prop :=
  (f = rbV ub ∧ wh = false ∧ ueOk sp l = ueOk sp R ∧ ueF l = Q ++ ueF R) ∨ (f = reV ub ∧ wh = false ∧ ueOk sp l = ueOk sp (125 :: R) ∧ ueF l = Q ++ ueF (125 :: R))
  ∨ (f = .nilFunc ∧ wh = true ∧ ueOk sp l = true ∧ ueF l = Q) ∨ (f = .nilFunc ∧ wh = false ∧ ueOk sp l = false)
theorem byR_cons {y : Int} {l : List Int} (h : byR (y :: l) = true) : (0 ≤ y ∧ y ≤ 255) ∧ byR l = true := by
  unfold byR at h
  rw [List.all_cons, Bool.and_eq_true_iff] at h
  exact ⟨of_decide_eq_true h.1, h.2⟩
def Fin' (w0 : World) (ub : Nat) (vs : Value) (sp l R Q : List Int) (w' : World) (f : Value) (R' Q' : List Int) (wh' : Bool) : Prop :=
  UU w0 ub vs R' Q' wh' w' ∧ St ub sp l R' Q' wh' f ∧ byR R' = true ∧ (f = .nilFunc ∨ R'.length < R.length) ∧ Q'.length + R'.length ≤ Q.length + R.length

set_option maxRecDepth 100000 in
set_option maxHeartbeats 2000000 in
theorem readByte_any (w0 wr : World) (ub : Nat) (vs : Value) (sp l R Q : List Int) (hu : UU w0 ub vs R Q false wr) (hsp : Rd w0 vs sp) (h1 : ueOk sp l = ueOk sp R) (h2 : ueF l = Q ++ ueF R) (hb : byR R = true) (h125 : sp.contains 125 = true) (hQ : Q.length + R.length ≤ 600) :
    Calls Try.prog 76 #[.pointer (some ⟨ub, 0, none⟩)] wr fun e w' => ∃ f R' Q' wh', e = .returned f ∧ Fin' w0 ub vs sp l R Q w' f R' Q' wh' := by
  obtain ⟨i0, hi, hz0, hz1, hz2⟩ := info_parts Try.infoInt
  obtain ⟨⟨vr, vp, hk, hr, ho⟩, hbel, hlow, hsiz⟩ := hu
  have HK := Lib.hid hk
  have HO := Lib.hid ho
  have HB := Lib.hid hbel
  have HSP := Lib.hid hsp
  cases R with
  | nil =>
    have HNX := Lib.hid (nextJ_no (· < w0.heap.size) wr ub ⟨vr, hk.cell 1 _ rfl, hk.frozen 1, hr⟩)
    have HE : Hid (ueOk sp l = true ∧ ueF l = Q) := ⟨by rw [h1, ueOk_nil], by rw [h2]; simp [ueF]⟩
    have q3 := hk.cell 3 _ rfl
    have f3 := hk.frozen 3
    have HR := Lib.hid hr
    clear hk hr ho hbel hsp h1 h2 hb h125
    go_enter Try.func76, Try.ntmps76
    go_wp2_with fail
    refine HNX.out.mono ?_; rintro e w' ⟨rfl, rfl⟩
    go_wp2_with fail
    go_ret
    exact ⟨_, [], Q, true, rfl, UU.set (R := []) (Q := Q) (wh := false) (vr := vr) (vp := vp) HB.out hlow hsiz 3 vr vp (HK.out.set 3 _) HR.out HO.out, .inr (.inr (.inl ⟨rfl, rfl, HE.out.1, HE.out.2⟩)), rfl, .inl rfl, by simp⟩
  | cons y R' =>
    obtain ⟨hy, hbR⟩ := byR_cons hb
    have HNX := Lib.hid (nextJ_yes (· < w0.heap.size) wr ub y (intVals R') (by omega) ⟨vr, hk.cell 1 _ rfl, hk.frozen 1, hr⟩)
    have HBR := Lib.hid hbR
    by_cases h5 : y = 125
    · have HE : Hid (ueOk sp l = ueOk sp (125 :: R') ∧ ueF l = Q ++ ueF (125 :: R')) := ⟨by rw [h1, h5], by rw [h2, h5]⟩
      have hq : (y == 125) = true := beq_t h5
      clear hk hr ho hbel hsp h1 h2 hb h125 hbR
      go_enter Try.func76, Try.ntmps76
      go_wp2_with fail
      refine HNX.out.mono ?_; rintro e w' ⟨rfl, u, hu, rfl⟩
      have U1 := Lib.hid (UU.set (R := y :: R') (Q := Q) (wh := false) (vr := vr) (vp := vp) HB.out hlow hsiz 1 u vp (HK.out.set 1 u) hu HO.out)
      clear hu
      go_wp2_with fail
      go_ret
      exact ⟨_, R', Q, false, rfl, U1.out, .inr (.inl ⟨rfl, rfl, HE.out.1, HE.out.2⟩), HBR.out, .inr (by simp), by simp⟩
    · have hq : (y == 125) = false := beq_f h5
      have HCT := Lib.hid (fun W (hb : Below w0.heap.size w0 W) => contains_any W vs sp y (HSP.out.keep hb))
      cases hc : sp.contains y
      · rw [hc] at HCT
        have HE : Hid (ueOk sp l = ueOk sp R' ∧ ueF l = (Q ++ [y]) ++ ueF R') := ⟨by rw [h1, ueOk_plain h5 hc], by rw [h2, ueF_plain h5]; simp⟩
        clear hk hr ho hbel hsp h1 h2 hb h125 hbR hc
        go_enter Try.func76, Try.ntmps76
        go_wp2_with fail
        refine HNX.out.mono ?_; rintro e w' ⟨rfl, u, hu, rfl⟩
        have U1 := Lib.hid (UU.set (R := y :: R') (Q := Q) (wh := false) (vr := vr) (vp := vp) HB.out hlow hsiz 1 u vp (HK.out.set 1 u) hu HO.out)
        clear hu HNX
        obtain ⟨w1, hw1⟩ : ∃ w1, wr.setCell ⟨ub, 1, none⟩ u = w1 := ⟨_, rfl⟩
        rw [hw1] at U1 ⊢
        clear hw1 HK HO HB hsiz
        obtain ⟨⟨vr1, vp1, hk1, hr1, ho1⟩, hbel1, -, hsiz1⟩ := U1.out
        have q0 := hk1.cell 0 _ rfl
        have q2 := hk1.cell 2 _ rfl
        have HB1 := Lib.hid hbel1
        go_wp2_with fail
        refine (HCT.out _ HB1.out).mono ?_; rintro e w' ⟨rfl, rfl⟩
        go_wp2_with (at_builtin; refine wpList_append_own _ rfl _ _ 22 rfl (ub + 1) 2 i0 (.int .i64 0) 1 8 Try.underlying22 hi hz0 hz1 hz2 rfl (by decide) _ _ _ rfl (ho1.alloc _) ⟨w1.heap.size, 0, none⟩ 1 1 [.int .i64 y] rfl rfl ?a1 ?a2 ?a3 ?a4 ?a5 ?_)
        case a1 => exact c1_int1 _ _ _
        case a2 => first | rfl | (intro u hu; simp at hu; subst hu; rfl)
        case a3 => unfold maxLen; simp at hQ; first | omega | (simp; omega)
        case a4 => simp at hQ; first | omega | (simp; omega)
        case a5 => simp; omega
        intro v2 w2 hown2 hgrow2 _
        have hub : vp1.ownBlock ≠ some ub := fun e => by have := (World.ownsRow.lt ho1 ub e).1; omega
        have hk2 : Blk w2 ub 83 [vs, vr1, vp1, .bool false] := (hk1.alloc _).grown hgrow2 hub
        have hr2 : RdV (· < w0.heap.size) w2 vr1 (intVals R') := (hr1.keep ((Below.refl _ _).alloc (Nat.le_refl _) (.cells #[.int .i64 y] 2))).same (fun j hj hl => hgrow2.block j hl (fun e => by have := (World.ownsRow.lt ho1 j e.symm).1; omega)) hgrow2.size
        have ho2 : Own w2 (ub + 1) v2 (Q ++ [y]) := own_of hown2 (by simp) (by simp [intVals])
        have hb2 : Below w0.heap.size w0 w2 := (hbel1.alloc hbel1.size _).grown hgrow2 (by simp; have := hbel1.size; omega) (fun k hk => by have := (World.ownsRow.lt ho1 k hk).1; omega)
        have hs2 : ub + 1 ≤ w2.heap.size := by have := hgrow2.size; simp at this; omega
        have p2 := hk2.cell 2 _ rfl
        have g2 := hk2.frozen 2
        have U2 := Lib.hid (UU.set (R := R') (Q := Q) (wh := false) (vr := vr1) (vp := vp1) hb2 hlow hs2 2 vr1 v2 (hk2.set 2 v2) hr2 ho2)
        obtain ⟨A9, c9, e9⟩ := own_shape ho2
        obtain ⟨N9, e8⟩ : ∃ N9 : Nat, (Q ++ [y]).length = N9 := ⟨_, rfl⟩
        rw [e8] at e9
        clear e8
        subst e9
        clear hk1 hr1 ho1 hbel1 hown2 hgrow2 hk2 hr2 ho2 hb2 q0 q2
        go_wp2_with fail
        go_ret
        exact ⟨_, R', Q ++ [y], false, rfl, U2.out, .inl ⟨rfl, rfl, HE.out.1, HE.out.2⟩, HBR.out, .inr (by simp), by simp; omega⟩
      · rw [hc] at HCT
        have HE : Hid (ueOk sp l = false) := by show _ = _; rw [h1, ueOk_special h5 hc]
        clear hk hr ho hbel hsp h1 h2 hb h125 hbR hc
        go_enter Try.func76, Try.ntmps76
        go_wp2_with fail
        refine HNX.out.mono ?_; rintro e w' ⟨rfl, u, hu, rfl⟩
        have U1 := Lib.hid (UU.set (R := y :: R') (Q := Q) (wh := false) (vr := vr) (vp := vp) HB.out hlow hsiz 1 u vp (HK.out.set 1 u) hu HO.out)
        clear hu HNX
        obtain ⟨w1, hw1⟩ : ∃ w1, wr.setCell ⟨ub, 1, none⟩ u = w1 := ⟨_, rfl⟩
        rw [hw1] at U1 ⊢
        clear hw1 HK HO HB hsiz
        obtain ⟨⟨vr1, vp1, hk1, hr1, ho1⟩, hbel1, -, hsiz1⟩ := U1.out
        have q0 := hk1.cell 0 _ rfl
        have HB1 := Lib.hid hbel1
        clear hk1 hr1 ho1 hbel1
        go_wp2_with fail
        refine (HCT.out _ HB1.out).mono ?_; rintro e w' ⟨rfl, rfl⟩
        go_wp2_with fail
        go_ret
        exact ⟨_, R', Q, false, rfl, U1.out, .inr (.inr (.inr ⟨rfl, rfl, HE.out⟩)), HBR.out, .inl rfl, by simp⟩

set_option maxRecDepth 100000 in
set_option maxHeartbeats 2000000 in
theorem readEscaped_any (w0 wr : World) (ub : Nat) (vs : Value) (sp l R Q : List Int) (hu : UU w0 ub vs R Q false wr) (hsp : Rd w0 vs sp) (h1 : ueOk sp l = ueOk sp (125 :: R)) (h2 : ueF l = Q ++ ueF (125 :: R)) (hb : byR R = true) (h125 : sp.contains 125 = true) (hQ : Q.length + R.length ≤ 600) :
    Calls Try.prog 124 #[.pointer (some ⟨ub, 0, none⟩)] wr fun e w' => ∃ f R' Q' wh', e = .returned f ∧ Fin' w0 ub vs sp l R Q w' f R' Q' wh' := by
  obtain ⟨i0, hi, hz0, hz1, hz2⟩ := info_parts Try.infoInt
  have HU := Lib.hid hu
  obtain ⟨⟨vr, vp, hk, hr, ho⟩, hbel, hlow, hsiz⟩ := hu
  have HK := Lib.hid hk
  have HO := Lib.hid ho
  have HB := Lib.hid hbel
  have HSP := Lib.hid hsp
  cases R with
  | nil =>
    have HNX := Lib.hid (nextJ_no (· < w0.heap.size) wr ub ⟨vr, hk.cell 1 _ rfl, hk.frozen 1, hr⟩)
    have HE : Hid (ueOk sp l = false) := by show _ = _; rw [h1, ueOk_end h125]
    clear hk hr ho hbel hsp h1 h2 hb h125
    go_enter Try.func124, Try.ntmps124
    go_wp2_with fail
    refine HNX.out.mono ?_; rintro e w' ⟨rfl, rfl⟩
    go_wp2_with fail
    go_ret
    exact ⟨_, [], Q, false, rfl, HU.out, .inr (.inr (.inr ⟨rfl, rfl, HE.out⟩)), rfl, .inl rfl, by simp⟩
  | cons y R' =>
    obtain ⟨hy, hbR⟩ := byR_cons hb
    have HNX := Lib.hid (nextJ_yes (· < w0.heap.size) wr ub y (intVals R') (by omega) ⟨vr, hk.cell 1 _ rfl, hk.frozen 1, hr⟩)
    have HBR := Lib.hid hbR
    have HCT := Lib.hid (fun W (hb : Below w0.heap.size w0 W) => contains_any W vs sp (bits .xor .i64 y 32) (HSP.out.keep hb))
    cases hc : sp.contains (x32 y)
    · rw [show sp.contains (bits .xor .i64 y 32) = false from hc] at HCT
      have HE : Hid (ueOk sp l = false) := by show _ = _; rw [h1, ueOk_escBad h125 hc]
      clear hk hr ho hbel hsp h1 h2 hb h125 hbR hc
      go_enter Try.func124, Try.ntmps124
      go_wp2_with fail
      refine HNX.out.mono ?_; rintro e w' ⟨rfl, u, hu, rfl⟩
      have U1 := Lib.hid (UU.set (R := y :: R') (Q := Q) (wh := false) (vr := vr) (vp := vp) HB.out hlow hsiz 1 u vp (HK.out.set 1 u) hu HO.out)
      clear hu HNX HU
      obtain ⟨w1, hw1⟩ : ∃ w1, wr.setCell ⟨ub, 1, none⟩ u = w1 := ⟨_, rfl⟩
      rw [hw1] at U1 ⊢
      clear hw1 HK HO HB hsiz
      obtain ⟨⟨vr1, vp1, hk1, hr1, ho1⟩, hbel1, -, hsiz1⟩ := U1.out
      have q0 := hk1.cell 0 _ rfl
      have HB1 := Lib.hid hbel1
      clear hk1 hr1 ho1 hbel1
      go_wp2_with fail
      refine (HCT.out _ HB1.out).mono ?_; rintro e w' ⟨rfl, rfl⟩
      go_wp2_with fail
      go_ret
      exact ⟨_, R', Q, false, rfl, U1.out, .inr (.inr (.inr ⟨rfl, rfl, HE.out⟩)), HBR.out, .inl rfl, by simp⟩
    · rw [show sp.contains (bits .xor .i64 y 32) = true from hc] at HCT
      have HE : Hid (ueOk sp l = ueOk sp R' ∧ ueF l = (Q ++ [x32 y]) ++ ueF R') := ⟨by rw [h1, ueOk_esc hy hc], by rw [h2, ueF_esc]; simp⟩
      clear hk hr ho hbel hsp h1 h2 hb h125 hbR hc
      go_enter Try.func124, Try.ntmps124
      go_wp2_with fail
      refine HNX.out.mono ?_; rintro e w' ⟨rfl, u, hu, rfl⟩
      have U1 := Lib.hid (UU.set (R := y :: R') (Q := Q) (wh := false) (vr := vr) (vp := vp) HB.out hlow hsiz 1 u vp (HK.out.set 1 u) hu HO.out)
      clear hu HNX HU
      obtain ⟨w1, hw1⟩ : ∃ w1, wr.setCell ⟨ub, 1, none⟩ u = w1 := ⟨_, rfl⟩
      rw [hw1] at U1 ⊢
      clear hw1 HK HO HB hsiz
      obtain ⟨⟨vr1, vp1, hk1, hr1, ho1⟩, hbel1, -, hsiz1⟩ := U1.out
      have q0 := hk1.cell 0 _ rfl
      have q2 := hk1.cell 2 _ rfl
      have HB1 := Lib.hid hbel1
      go_wp2_with fail
      refine (HCT.out _ HB1.out).mono ?_; rintro e w' ⟨rfl, rfl⟩
      go_wp2_with (at_builtin; refine wpList_append_own _ rfl _ _ 22 rfl (ub + 1) 2 i0 (.int .i64 0) 1 8 Try.underlying22 hi hz0 hz1 hz2 rfl (by decide) _ _ _ rfl (ho1.alloc _) ⟨w1.heap.size, 0, none⟩ 1 1 [.int .i64 (bits .xor .i64 y 32)] rfl rfl ?a1 ?a2 ?a3 ?a4 ?a5 ?_)
      case a1 => exact c1_int1 _ _ _
      case a2 => first | rfl | (intro u hu; simp at hu; subst hu; rfl)
      case a3 => unfold maxLen; simp at hQ; first | omega | (simp; omega)
      case a4 => simp at hQ; first | omega | (simp; omega)
      case a5 => simp; omega
      intro v2 w2 hown2 hgrow2 _
      have hub : vp1.ownBlock ≠ some ub := fun e => by have := (World.ownsRow.lt ho1 ub e).1; omega
      have hk2 : Blk w2 ub 83 [vs, vr1, vp1, .bool false] := (hk1.alloc _).grown hgrow2 hub
      have hr2 : RdV (· < w0.heap.size) w2 vr1 (intVals R') := (hr1.keep ((Below.refl _ _).alloc (Nat.le_refl _) (.cells #[.int .i64 (bits .xor .i64 y 32)] 2))).same (fun j hj hl => hgrow2.block j hl (fun e => by have := (World.ownsRow.lt ho1 j e.symm).1; omega)) hgrow2.size
      have ho2 : Own w2 (ub + 1) v2 (Q ++ [x32 y]) := own_of hown2 (by simp) (by simp [intVals, x32])
      have hb2 : Below w0.heap.size w0 w2 := (hbel1.alloc hbel1.size _).grown hgrow2 (by simp; have := hbel1.size; omega) (fun k hk => by have := (World.ownsRow.lt ho1 k hk).1; omega)
      have hs2 : ub + 1 ≤ w2.heap.size := by have := hgrow2.size; simp at this; omega
      have p2 := hk2.cell 2 _ rfl
      have g2 := hk2.frozen 2
      have U2 := Lib.hid (UU.set (R := R') (Q := Q) (wh := false) (vr := vr1) (vp := vp1) hb2 hlow hs2 2 vr1 v2 (hk2.set 2 v2) hr2 ho2)
      obtain ⟨A9, c9, e9⟩ := own_shape ho2
      obtain ⟨N9, e8⟩ : ∃ N9 : Nat, (Q ++ [x32 y]).length = N9 := ⟨_, rfl⟩
      rw [e8] at e9
      clear e8
      subst e9
      clear hk1 hr1 ho1 hbel1 hown2 hgrow2 hk2 hr2 ho2 hb2 q0 q2
      go_wp2_with fail
      go_ret
      exact ⟨_, R', Q ++ [x32 y], false, rfl, U2.out, .inl ⟨rfl, rfl, HE.out.1, HE.out.2⟩, HBR.out, .inr (by simp), by simp; omega⟩
end Go.Proofs.Ytjmaapbodacggaa
