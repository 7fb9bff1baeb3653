/- The program's UncobsBytes. -/
import Derived.Test.YtjmaapbodacggaaUos
import Derived.Test.YtjmaapbodacggaaCoi
import Derived.Test.YtjmaapbodacggaaRbi
namespace Go.Proofs.Ytjmaapbodacggaa
open Go Go.RowKit
set_option linter.unusedVariables false

theorem rdv_of_rd2 {w : World} {v : Value} {l : List Int} (h : Rd w v l) : RdV (· < w.heap.size) w v (intVals l) := by
  obtain ⟨A, n, c, e, hn, h1, h2, h3⟩ := h
  refine ⟨A, n, c, e, by simpa [intVals] using hn, h1, by omega, fun h0 => ?_⟩
  obtain ⟨b, o, ea, hlt, hc⟩ := h3 h0
  refine ⟨b, o, ea, hlt, hlt, fun i x hx => ?_⟩
  unfold intVals at hx
  rw [List.getElem?_map] at hx
  cases e : l[i]? with
  | none => rw [e] at hx; cases hx
  | some y =>
    rw [e] at hx
    obtain ⟨hi, rfl⟩ := List.getElem?_eq_some_iff.1 e
    injection hx with hx
    subst hx
    exact hc i hi
theorem win_rdv {K : Nat → Prop} {w : World} {A : Option Addr} {m c : Nat} {xs : List Value} (h : RdV K w (.slice A m c) xs) : (A = none → m = 0) ∧ ∀ ad, A = some ad → ∀ j u, xs[j]? = some u → w.cell? (ad.add j) = some u := by
  obtain ⟨A', n', c', e, h1, h2, h3, h4⟩ := h
  injection e with e1 e2 e3
  subst e1; subst e2; subst e3
  by_cases h0 : 0 < m
  · obtain ⟨b, o, rfl, -, -, hc⟩ := h4 h0
    refine ⟨(fun h => by cases h), fun ad had j u hj => ?_⟩
    injection had with had
    subst had
    rw [add_plain2]; exact hc j u hj
  · have hx : xs = [] := List.length_eq_zero_iff.1 (by omega)
    subst hx
    exact ⟨fun _ => by omega, fun ad _ j u hj => by simp at hj⟩
/-- What the loop holds. -/
structure UV (w : World) (R Q : List Int) (v : Value) (wr : World) : Prop where
  rdr : RdrI (· < w.heap.size) wr w.heap.size (intVals R)
  own : Own wr (w.heap.size + 1) v Q
  bel : Below w.heap.size w wr
  siz : w.heap.size + 1 ≤ wr.heap.size
theorem UV.set {w wr : World} {R R' Q : List Int} {v u : Value} (h : UV w R Q v wr) (hu : RdV (· < w.heap.size) wr u (intVals R')) : UV w R' Q v (wr.setCell ⟨w.heap.size, 0, none⟩ u) := by
  obtain ⟨⟨v0, hk, hv⟩, ho, hb, hs⟩ := h
  refine ⟨⟨u, hk.set 0 u, hu.set _ _ _ (by omega)⟩, ?_, hb.setCell (p := ⟨w.heap.size, 0, none⟩) (Nat.le_refl _) _, by simpa [World.setCell] using hs⟩
  refine World.ownsRow.kept (row := some w.heap.size) ho ⟨rfl, rfl, rfl, by simp [World.setCell], fun k _ hk => Below.heap_setCell _ _ _ _ (fun e => hk (by simp [e]))⟩ (Or.inr (fun e => ?_))
  have := (World.ownsRow.lt ho _ e).1
  omega
theorem UV.grow {w wr w2 : World} {R Q Q' : List Int} {v v2 : Value} (h : UV w R Q v wr) (hb : Below (w.heap.size + 1) wr w2) (ho : Own w2 (w.heap.size + 1) v2 Q') : UV w R Q' v2 w2 := by
  obtain ⟨⟨v0, hk, hv⟩, _, hb0, hs⟩ := h
  exact ⟨⟨v0, hk.below hb (by omega), hv.same (fun b hb' _ => hb.block b (by omega)) hb.size⟩, ho, hb0.trans (hb.mono (by omega)), Nat.le_trans hs hb.size⟩
def NXI (R R' : List Int) (f ok : Value) : Prop := (R = [] ∧ R' = [] ∧ f = .int .i64 0 ∧ ok = .bool false) ∨ (∃ y, R = y :: R' ∧ f = .int .i64 y ∧ ok = .bool true)
theorem UV.next {w wr : World} {R Q : List Int} {v : Value} (h : UV w R Q v wr) :
    Calls Try.prog 84 #[.pointer (some ⟨w.heap.size, 0, none⟩)] wr fun e w' => ∃ f ok R', e = .returned (.tuple #[f, ok]) ∧ NXI R R' f ok ∧ UV w R' Q v w' := by
  cases R with
  | nil =>
    refine (nextI_no _ _ _ h.rdr).mono ?_
    rintro e w' ⟨rfl, rfl⟩
    exact ⟨_, _, [], rfl, .inl ⟨rfl, rfl, rfl, rfl⟩, h⟩
  | cons y R' =>
    refine (nextI_yes (· < w.heap.size) wr w.heap.size y (intVals R') (by omega) h.rdr).mono ?_
    rintro e w' ⟨rfl, u, hu, rfl⟩
    exact ⟨_, _, R', rfl, .inr ⟨y, rfl, rfl, rfl⟩, h.set hu⟩
def rdL (b : Nat) (ok : Value) (w : World) : Nat := (match w.cell? ⟨b, 0, none⟩ with | some (.slice _ n _) => n | _ => 0) + (match ok with | .bool true => 1 | _ => 0)
theorem UV.left {w wr : World} {R R' Q : List Int} {v f ok : Value} (h : UV w R' Q v wr) (hn : NXI R R' f ok) : rdL w.heap.size ok wr = R.length := by
  obtain ⟨⟨v0, hk, hv⟩, _, _, _⟩ := h
  obtain ⟨A, c, rfl, -⟩ := hv.sh
  unfold rdL
  rw [hk.cell 0 _ rfl]
  simp only [intVals_length]
  rcases hn with ⟨rfl, rfl, rfl, rfl⟩ | ⟨y, rfl, rfl, rfl⟩
  · rfl
  · simp
theorem drop_good {l t : List Int} {i m : Nat} {y : Int} (hd : l.drop i = y :: t) : l.drop (i + m + 1) = t.drop m := by
  have : l.drop (i + 1) = t := by
    have := congrArg (List.drop 1) hd
    rw [List.drop_drop] at this
    simpa using this
  rw [show i + m + 1 = (i + 1) + m from by omega, ← List.drop_drop, this]
theorem byR_app {a b : List Int} (h1 : byR a = true) (h2 : byR b = true) : byR (a ++ b) = true := by unfold byR at *; rw [List.all_append, h1, h2]; rfl
theorem byR_sub {l : List Int} (h : byR l = true) (i m : Nat) : byR ((l.drop i).take m) = true := by
  unfold byR at *
  rw [List.all_eq_true] at *
  exact fun x hx => h x (List.mem_of_mem_drop (List.mem_of_mem_take hx))
theorem drop_tail {l t : List Int} {i : Nat} {y : Int} (hd : l.drop i = y :: t) : t = l.drop (i + 1) := by
  have := congrArg (List.drop 1) hd
  rw [List.drop_drop] at this
  simpa using this.symm

set_option maxRecDepth 100000 in
set_option maxHeartbeats 1000000 in
theorem uncobsBytes_impl (w : World) (vb : Value) (l : List Int) (hl : Rd w vb l) :
    Calls Try.prog 36 #[vb] w fun e w' => ∃ v, e = .returned (.tuple #[v, .bool (uoOk l)]) ∧ Own w' w.heap.size v (uoV l) ∧ Below w.heap.size w w' := by
  have H1 := Lib.hid (areBytes_impl w vb l 600 (by decide) hl)
  have H0 := Lib.hid (contains_any w vb l 0 hl)
  cases h2 : byOk' 600 l
  · have e : uoOk l = false := by unfold uoOk; rw [h2]; rfl
    rw [uoV_no e, e]
    rw [h2] at H1
    clear h2 e hl
    go_enter Try.func36, Try.ntmps36
    go_wp2_with fail
    refine H1.out.mono ?_; rintro e w' ⟨rfl, rfl⟩
    go_wp2_with fail
    go_ret2
    exact ⟨_, rfl, own_none _ _, Below.refl _ _⟩
  rw [h2] at H1
  cases h3 : l.contains 0
  rotate_left
  · have e : uoOk l = false := by unfold uoOk; rw [ucOk_zero l h3, Bool.and_false]
    rw [uoV_no e, e]
    rw [h3] at H0
    clear h2 h3 e hl
    go_enter Try.func36, Try.ntmps36
    go_wp2_with fail
    refine H1.out.mono ?_; rintro e w' ⟨rfl, rfl⟩
    go_wp2_with fail
    refine H0.out.mono ?_; rintro e w' ⟨rfl, rfl⟩
    go_wp2_with fail
    go_ret2
    exact ⟨_, rfl, own_none _ _, Below.refl _ _⟩
  rw [h3] at H0
  have hb2 := Bool.and_eq_true_iff.1 (show (decide (l.length ≤ 600) && byR l) = true from h2)
  have hlen : l.length ≤ 600 := of_decide_eq_true hb2.1
  have HBY := Lib.hid hb2.2
  have HNZ : Hid (∀ y ∈ l, y ≠ 0) := by
    show ∀ y ∈ l, y ≠ 0
    intro y hy e
    subst e
    have : l.contains 0 = true := by rw [List.contains_iff_mem]; exact hy
    rw [h3] at this; cases this
  have HNO := Lib.hid (@uo_none l)
  have HSO := Lib.hid (fun M (h : unc l = some M) => uo_some h h2)
  have HV0 := Lib.hid (@uoV_no l)
  have HUC := Lib.hid (UcR.start l)
  obtain ⟨i0, hi, hz0, hz1, hz2⟩ := info_parts Try.infoInt
  have HV := Lib.hid hl
  have HRV := Lib.hid (rdv_of_rd2 hl)
  obtain ⟨A, n, c, rfl, hn, hnc, -, -⟩ := hl
  have HN := Lib.hid hn
  have HLN := Lib.hid hlen
  clear hb2 h2 h3 hn hlen
  generalize uoV l = VV at *
  generalize uoOk l = OK at *
  have kb : Below w.heap.size w (w.alloc (.cells #[.slice A n c] 81)) := (Below.refl _ _).alloc (Nat.le_refl _) _
  have U0 := Lib.hid (show UV w l [] (.slice none 0 0) (w.alloc (.cells #[.slice A n c] 81)) from
    ⟨⟨_, Blk.new w [.slice A n c] _ _ rfl, HRV.out.keep kb⟩, own_none _ _, kb, by simp⟩)
  clear kb
  go_enter Try.func36, Try.ntmps36
  go_wp2_with fail
  refine H1.out.mono ?_; rintro e w' ⟨rfl, rfl⟩
  go_wp2_with fail
  refine H0.out.mono ?_; rintro e w' ⟨rfl, rfl⟩
  go_wp2_with fail
  refine (UV.next U0.out).mono ?_; rintro e w1 ⟨f1, ok1, R1, rfl, hn1, hu1⟩
  have F1 := Lib.hid (And.intro hn1 hu1)
  clear hn1 hu1 U0
  go_wp2_with fail
  go_loopw [4, 5, 7, 8] (fun v d f ok wr => ∃ (i : Nat) (Q R' : List Int) (due : Bool), UcR l (Q ++ (if due = true ∧ l.drop i ≠ [] then [0] else [])) i ∧ d = .bool due ∧ NXI (l.drop i) R' f ok ∧ UV w R' Q v wr ∧ byR Q = true) (fun _ _ _ ok wr => rdL w.heap.size ok wr)
  case atStart => exact ⟨0, [], R1, false, by have := HUC.out; simpa using this, rfl, F1.out.1, F1.out.2, rfl⟩
  case round =>
    clear F1
    obtain ⟨i, Q, R', due, hur, rfl, hnx, hu, hbq⟩ := hrel
    have HU := Lib.hid hu
    have HQ := Lib.hid hbq
    have HLF := Lib.hid (hu.left hnx)
    have hQl : Q.length ≤ 600 := by
      have h1 := hur.2.1
      have h2 := hur.1
      have h3 := HLN.out
      rw [List.length_append] at h1
      omega
    clear hu hbq
    rcases hnx with ⟨hd, rfl, rfl, rfl⟩ | ⟨y, hd, rfl, rfl⟩
    · have hil : l.length ≤ i := List.drop_eq_nil_iff.1 hd
      rw [if_neg (by rw [hd]; simp), List.append_nil] at hur
      have HE := Lib.hid (HSO.out Q (hur.fin hil))
      obtain ⟨hokx, hyx⟩ := HE.out
      have hcb : cbOk Q = decide (Q.length ≤ 300) := by unfold cbOk byOk'; rw [HQ.out, Bool.and_true]
      have HX := Lib.hid (cobsBytes_impl wr _ Q HU.out.own.rd)
      rw [hcb] at HX
      have HOW : Hid (Own wr w.heap.size u4 Q) := Own.base HU.out.own (by omega)
      clear hur hd hil
      by_cases h3 : Q.length ≤ 300
      · rw [decide_eq_true h3] at HX hcb
        have hcv := cbV_yes hcb
        rw [hcv] at HX
        rw [decide_eq_true h3, Bool.true_and] at hokx
        by_cases h4 : cob Q = l
        · rw [decide_eq_true h4] at hokx
          have HZ := Lib.hid (And.intro hokx (hyx hokx))
          have H4 := Lib.hid (decide_eq_true h4)
          clear hokx hyx HE h4 hcb hcv
          go_wp2_with fail
          refine HX.out.mono ?_; rintro e w2 ⟨v2, rfl, ho2, hb2⟩
          have HSM := Lib.hid (equal_any w2 v2 (.slice A n c) _ l ho2.rd ((HV.out.keep HU.out.bel).keep hb2))
          have B2 := Lib.hid (HU.out.bel.trans (hb2.mono HU.out.bel.size))
          have O2 := Lib.hid (HOW.out.keep hb2)
          clear ho2 hb2
          rw [H4.out] at HSM
          go_wp2_with fail
          refine HSM.out.mono ?_; rintro e w3 ⟨rfl, q3, rfl⟩
          go_wp2_with fail
          go_ret2
          rw [HZ.out.1, HZ.out.2]
          exact ⟨_, rfl, own_drewN O2.out q3, below_drewN B2.out q3⟩
        · rw [decide_eq_false h4] at hokx
          have HZ := Lib.hid (And.intro hokx (HV0.out hokx))
          have H4 := Lib.hid (decide_eq_false h4)
          clear hokx hyx HE h4 hcb hcv
          go_wp2_with fail
          refine HX.out.mono ?_; rintro e w2 ⟨v2, rfl, ho2, hb2⟩
          have HSM := Lib.hid (equal_any w2 v2 (.slice A n c) _ l ho2.rd ((HV.out.keep HU.out.bel).keep hb2))
          have B2 := Lib.hid (HU.out.bel.trans (hb2.mono HU.out.bel.size))
          clear ho2 hb2
          rw [H4.out] at HSM
          go_wp2_with fail
          refine HSM.out.mono ?_; rintro e w3 ⟨rfl, q3, rfl⟩
          go_wp2_with fail
          go_ret2
          rw [HZ.out.1, HZ.out.2]
          exact ⟨_, rfl, own_none _ _, below_drewN B2.out q3⟩
      · rw [decide_eq_false h3] at HX
        rw [decide_eq_false h3, Bool.false_and] at hokx
        have HZ := Lib.hid (And.intro hokx (HV0.out hokx))
        clear hokx hyx HE hcb
        go_wp2_with fail
        refine HX.out.mono ?_; rintro e w2 ⟨v2, rfl, ho2, hb2⟩
        have B2 := Lib.hid (HU.out.bel.trans (hb2.mono HU.out.bel.size))
        clear ho2 hb2
        go_wp2_with fail
        go_ret2
        rw [HZ.out.1, HZ.out.2]
        exact ⟨_, rfl, own_none _ _, B2.out⟩
    · have hym : y ∈ l := List.mem_of_mem_drop (by rw [hd]; exact List.mem_cons_self)
      have hyn := HNZ.out y hym
      have hyb := byR_mem HBY.out hym
      obtain ⟨m, rfl⟩ : ∃ m : Nat, y = (m : Int) + 1 := ⟨(y - 1).toNat, by omega⟩
      have hrl : R'.length ≤ 600 := by
        have h1 := congrArg List.length hd
        have h2 := HLN.out
        rw [List.length_drop] at h1
        simp at h1; omega
      have hm255 : m ≤ 254 := by omega
      by_cases hfit : m ≤ R'.length
      rotate_left
      · have HZ := Lib.hid (HNO.out (hur.bad hd (.inr (by omega))))
        have HT := Lib.hid (takeI_no _ wr w.heap.size _ (m : Int) HU.out.rdr (by rw [intVals_length]; omega))
        clear hur hd hym hyn hyb
        go_wp2_with fail
        refine HT.out.mono ?_; rintro e w' ⟨rfl, rfl⟩
        go_wp2_with fail
        go_ret2
        rw [HZ.out.1, HZ.out.2]
        exact ⟨_, rfl, own_none _ _, HU.out.bel⟩
      have HG := Lib.hid (hur.good hd hfit)
      have HDG := Lib.hid (drop_good (m := m) hd)
      have hdt := drop_tail hd
      have hbt : byR (R'.take m) = true := by rw [hdt]; exact byR_sub HBY.out _ _
      have HBT := Lib.hid hbt
      have htl : (R'.take m).length = m := by rw [List.length_take]; omega
      have HT := Lib.hid (takeI_yes _ wr w.heap.size (intVals R') m HU.out.rdr (by rw [intVals_length]; exact hfit))
      have hne : l.drop i ≠ [] := by rw [hd]; simp
      have HNE := Lib.hid hne
      have hdl : (l.drop i).length = R'.length + 1 := by rw [hd]; rfl
      rw [hdl] at HLF
      clear hur hd hym hyn hyb hdt hbt hne hdl
      go_wp2_with fail
      refine HT.out.mono ?_; rintro e w2 ⟨vb, rfl, hvb, u, hvu, rfl⟩
      have hvb2 := hvb.set w.heap.size 0 u (by omega)
      have U2 := Lib.hid (HU.out.set (R' := R'.drop m) (by have := hvu; rwa [show (intVals R').drop m = intVals (R'.drop m) from by simp [intVals, List.map_drop]] at this))
      rw [show (intVals R').take m = intVals (R'.take m) from by simp [intVals, List.map_take]] at hvb2
      obtain ⟨w3, hw3⟩ : ∃ w3, wr.setCell ⟨w.heap.size, 0, none⟩ u = w3 := ⟨_, rfl⟩
      rw [hw3] at U2 hvb2 ⊢
      have HVB := Lib.hid hvb2
      obtain ⟨Ab, cb, hvs, -⟩ := hvb2.sh
      rw [intVals_length, htl] at hvs
      subst hvs
      clear hw3 hvb hvb2 hvu HT HU
      cases due
      · have ho3 := U2.out.own
        have hwf := win_rdv HVB.out
        go_wp2_with (at_builtin; refine wpList_append_win _ rfl _ _ 22 rfl (w.heap.size + 1) 2 i0 (.int .i64 0) 1 8 Try.underlying22 hi hz0 hz1 hz2 rfl (by decide) _ _ _ rfl ho3 _ m _ (intVals (R'.take m)) rfl (by rw [intVals_length, htl, Nat.mul_one]) (by exact hwf.1) (by exact hwf.2) (by intro u hu; unfold intVals at hu; obtain ⟨x, _, rfl⟩ := List.mem_map.1 hu; rfl) ?fd3 ?fd4 ?fd5 ?_)
        case fd3 => unfold maxLen; first | omega | (simp; omega)
        case fd4 => first | omega | (simp; omega)
        case fd5 => exact U2.out.siz
        intro v5 w5 hown5 hgrow5
        have hk5 : Below (w.heap.size + 1) w3 w5 := (Below.refl _ _).grown hgrow5 U2.out.siz (fun j hj => (World.ownsRow.lt ho3 j hj).1)
        have ho5 : Own w5 (w.heap.size + 1) v5 (Q ++ R'.take m) := by
          refine own_of hown5 ?_ ?_
          · rw [List.length_append, htl]; try simp
          · simp [intVals]
        have U5 := Lib.hid (U2.out.grow hk5 ho5)
        clear hown5 hgrow5 hk5 ho5 hwf
        have HB5 : Hid (byR (Q ++ R'.take m) = true) := byR_app HQ.out HBT.out
        by_cases hz : m + 1 ≤ 254
        · have z3 : (m : Int) + 1 ≤ 254 := by omega
          have HG2 : Hid (UcR l ((Q ++ R'.take m) ++ (if true = true ∧ l.drop (i + m + 1) ≠ [] then [0] else [])) (i + m + 1)) := by
            show UcR _ _ _
            have h := HG.out
            rw [if_neg (by simp), List.append_nil] at h
            rw [HDG.out]
            have e2 : (if m + 1 ≤ 254 ∧ R'.drop m ≠ [] then [(0 : Int)] else []) = (if true = true ∧ R'.drop m ≠ [] then [0] else []) := by simp [hz]
            rw [← e2]; exact h
          clear hz
          go_wp2_with fail
          refine (UV.next U5.out).mono ?_; rintro e w6 ⟨f6, ok6, R6, rfl, hn6, hu6⟩
          have F6 := Lib.hid (And.intro hn6 hu6)
          have HL6 := Lib.hid (hu6.left hn6)
          clear hn6 hu6
          go_wp2_with fail
          go_roundw
          case rel => exact ⟨i + m + 1, _, R6, true, (by first | exact HG2.out | simpa using HG2.out), (by first | rfl | trivial), by have := F6.out.1; rwa [← HDG.out] at this, F6.out.2, HB5.out⟩
          case measure => have h1 := HL6.out; have h2 := HLF.out; rw [List.length_drop] at h1; simp at h1 h2 ⊢; omega
        · have z3 : ¬ (m : Int) + 1 ≤ 254 := by omega
          have HG2 : Hid (UcR l ((Q ++ R'.take m) ++ (if false = true ∧ l.drop (i + m + 1) ≠ [] then [0] else [])) (i + m + 1)) := by
            show UcR _ _ _
            have h := HG.out
            rw [if_neg (by simp), List.append_nil] at h
            have e2 : (if m + 1 ≤ 254 ∧ R'.drop m ≠ [] then [(0 : Int)] else []) = (if false = true ∧ l.drop (i + m + 1) ≠ [] then [0] else []) := by simp [hz]
            rw [← e2]; exact h
          clear hz
          go_wp2_with fail
          refine (UV.next U5.out).mono ?_; rintro e w6 ⟨f6, ok6, R6, rfl, hn6, hu6⟩
          have F6 := Lib.hid (And.intro hn6 hu6)
          have HL6 := Lib.hid (hu6.left hn6)
          clear hn6 hu6
          go_wp2_with fail
          go_roundw
          case rel => exact ⟨i + m + 1, _, R6, false, (by first | exact HG2.out | simpa using HG2.out), (by first | rfl | trivial), by have := F6.out.1; rwa [← HDG.out] at this, F6.out.2, HB5.out⟩
          case measure => have h1 := HL6.out; have h2 := HLF.out; rw [List.length_drop] at h1; simp at h1 h2 ⊢; omega
      · have ho3 := U2.out.own
        go_wp2_with (at_builtin; refine wpList_append_own _ rfl _ _ 22 rfl (w.heap.size + 1) 2 i0 (.int .i64 0) 1 8 Try.underlying22 hi hz0 hz1 hz2 rfl (by decide) _ _ _ rfl (ho3.alloc _) ⟨w3.heap.size, 0, none⟩ 1 1 [.int .i64 0] rfl rfl (by exact c1_int1 _ _ _) (by intro u hu; simp at hu; subst hu; rfl) ?tc3 ?tc4 ?tc5 ?_)
        case tc3 => unfold maxLen; first | omega | (simp; omega)
        case tc4 => first | omega | (simp; omega)
        case tc5 => have := U2.out.siz; simp; omega
        intro v4 w4 hown4 hgrow4 _
        have hk4 : Below (w.heap.size + 1) w3 w4 := below_int (Below.refl _ _) U2.out.siz (Nat.le_refl _) ho3 hgrow4
        have ho4 : Own w4 (w.heap.size + 1) v4 (Q ++ [0]) := own_of hown4 (by simp) (by simp [intVals])
        have U4 := Lib.hid (U2.out.grow hk4 ho4)
        have HVB4 := Lib.hid (HVB.out.same (fun b hb _ => hk4.block b (by omega)) hk4.size)
        clear hown4 hgrow4 ho3 hk4
        have hwt2 := win_rdv HVB4.out
        go_wp2_with (at_builtin; refine wpList_append_win _ rfl _ _ 22 rfl (w.heap.size + 1) 2 i0 (.int .i64 0) 1 8 Try.underlying22 hi hz0 hz1 hz2 rfl (by decide) _ _ _ rfl ho4 _ m _ (intVals (R'.take m)) rfl (by rw [intVals_length, htl, Nat.mul_one]) (by exact hwt2.1) (by exact hwt2.2) (by intro u hu; unfold intVals at hu; obtain ⟨x, _, rfl⟩ := List.mem_map.1 hu; rfl) ?t2d3 ?t2d4 ?t2d5 ?_)
        case t2d3 => unfold maxLen; first | omega | (simp; omega)
        case t2d4 => first | omega | (simp; omega)
        case t2d5 => exact U4.out.siz
        intro v5 w5 hown5 hgrow5
        have hk5 : Below (w.heap.size + 1) w4 w5 := (Below.refl _ _).grown hgrow5 U4.out.siz (fun j hj => (World.ownsRow.lt ho4 j hj).1)
        have ho5 : Own w5 (w.heap.size + 1) v5 ((Q ++ [0]) ++ R'.take m) := by
          refine own_of hown5 ?_ ?_
          · rw [List.length_append, htl]; try simp
          · simp [intVals]
        have U5 := Lib.hid (U4.out.grow hk5 ho5)
        clear hown5 hgrow5 hk5 ho5 hwt2
        have HB5 : Hid (byR ((Q ++ [0]) ++ R'.take m) = true) := byR_app (byR_app HQ.out (by decide)) HBT.out
        by_cases hz : m + 1 ≤ 254
        · have z3 : (m : Int) + 1 ≤ 254 := by omega
          have HG2 : Hid (UcR l (((Q ++ [0]) ++ R'.take m) ++ (if true = true ∧ l.drop (i + m + 1) ≠ [] then [0] else [])) (i + m + 1)) := by
            show UcR _ _ _
            have h := HG.out
            rw [if_pos (And.intro (by first | rfl | trivial) HNE.out)] at h
            rw [HDG.out]
            have e2 : (if m + 1 ≤ 254 ∧ R'.drop m ≠ [] then [(0 : Int)] else []) = (if true = true ∧ R'.drop m ≠ [] then [0] else []) := by simp [hz]
            rw [← e2]; exact h
          clear hz
          go_wp2_with fail
          refine (UV.next U5.out).mono ?_; rintro e w6 ⟨f6, ok6, R6, rfl, hn6, hu6⟩
          have F6 := Lib.hid (And.intro hn6 hu6)
          have HL6 := Lib.hid (hu6.left hn6)
          clear hn6 hu6
          go_wp2_with fail
          go_roundw
          case rel => exact ⟨i + m + 1, _, R6, true, (by first | exact HG2.out | simpa using HG2.out), (by first | rfl | trivial), by have := F6.out.1; rwa [← HDG.out] at this, F6.out.2, HB5.out⟩
          case measure => have h1 := HL6.out; have h2 := HLF.out; rw [List.length_drop] at h1; simp at h1 h2 ⊢; omega
        · have z3 : ¬ (m : Int) + 1 ≤ 254 := by omega
          have HG2 : Hid (UcR l (((Q ++ [0]) ++ R'.take m) ++ (if false = true ∧ l.drop (i + m + 1) ≠ [] then [0] else [])) (i + m + 1)) := by
            show UcR _ _ _
            have h := HG.out
            rw [if_pos (And.intro (by first | rfl | trivial) HNE.out)] at h
            have e2 : (if m + 1 ≤ 254 ∧ R'.drop m ≠ [] then [(0 : Int)] else []) = (if false = true ∧ l.drop (i + m + 1) ≠ [] then [0] else []) := by simp [hz]
            rw [← e2]; exact h
          clear hz
          go_wp2_with fail
          refine (UV.next U5.out).mono ?_; rintro e w6 ⟨f6, ok6, R6, rfl, hn6, hu6⟩
          have F6 := Lib.hid (And.intro hn6 hu6)
          have HL6 := Lib.hid (hu6.left hn6)
          clear hn6 hu6
          go_wp2_with fail
          go_roundw
          case rel => exact ⟨i + m + 1, _, R6, false, (by first | exact HG2.out | simpa using HG2.out), (by first | rfl | trivial), by have := F6.out.1; rwa [← HDG.out] at this, F6.out.2, HB5.out⟩
          case measure => have h1 := HL6.out; have h2 := HLF.out; rw [List.length_drop] at h1; simp at h1 h2 ⊢; omega
end Go.Proofs.Ytjmaapbodacggaa
