/- The model's UncobsBytes. -/
import Derived.Test.YtllkojakeoennabCos
import Derived.Test.YtllkojakeoennabSam
namespace Go.Proofs.Ytllkojakeoennab
open Go Go.RowKit
set_option linter.unusedVariables false

/-- What has been read of bytes without 0. -/
def UcR (l M : List Int) (i : Nat) : Prop := i ≤ l.length ∧ M.length ≤ i ∧ ∃ f, l.length - i < f ∧ unc l = (ucF f (l.drop i)).map (M ++ ·)
theorem UcR.start (l : List Int) : UcR l [] 0 := ⟨Nat.zero_le _, Nat.le_refl _, l.length + 1, by omega, by simp [unc]⟩
theorem UcR.fin {l M : List Int} {i : Nat} (h : UcR l M i) (hi : l.length ≤ i) : unc l = some M := by
  obtain ⟨_, _, f, hf, e⟩ := h
  obtain ⟨f', rfl⟩ : ∃ f', f = f' + 1 := ⟨f - 1, by omega⟩
  rw [e, List.drop_eq_nil_of_le hi]; simp [ucF]
theorem UcR.bad {l M t : List Int} {i : Nat} {y : Int} (h : UcR l M i) (hd : l.drop i = y :: t) (hb : y = 0 ∨ (t.length : Int) < y - 1) : unc l = none := by
  obtain ⟨_, _, f, hf, e⟩ := h
  obtain ⟨f', rfl⟩ : ∃ f', f = f' + 1 := ⟨f - 1, by omega⟩
  rw [e, hd, ucF, if_pos hb]; rfl
theorem UcR.good {l M t : List Int} {i m : Nat} (h : UcR l M i) (hd : l.drop i = ((m : Int) + 1) :: t) (hm : m ≤ t.length) :
    UcR l ((M ++ t.take m) ++ (if m + 1 ≤ 254 ∧ t.drop m ≠ [] then [0] else [])) (i + m + 1) := by
  obtain ⟨h1, h2, f, hf, e⟩ := h
  have hl : l.length - i = t.length + 1 := by rw [← List.length_drop, hd]; rfl
  obtain ⟨f', rfl⟩ : ∃ f', f = f' + 1 := ⟨f - 1, by omega⟩
  have hdd : l.drop (i + m + 1) = t.drop m := by
    have : l.drop (i + 1) = t := by
      have := congrArg (List.drop 1) hd
      rw [List.drop_drop] at this
      simpa using this
    rw [show i + m + 1 = (i + 1) + m from by omega, ← List.drop_drop, this]
  refine ⟨by omega, ?_, f', by omega, ?_⟩
  · simp only [List.length_append, List.length_take]
    split
    · simp; omega
    · simp; omega
  · rw [e, hd, ucF, if_neg (by omega), hdd]
    have e1 : ((m : Int) + 1 - 1).toNat = m := by omega
    have e2 : (if ((m : Int) + 1 ≤ 254 ∧ t.drop m ≠ []) then [(0 : Int)] else []) = (if (m + 1 ≤ 254 ∧ t.drop m ≠ []) then [0] else []) := by
      by_cases h : m + 1 ≤ 254 ∧ t.drop m ≠ []
      · rw [if_pos h, if_pos ⟨by omega, h.2⟩]
      · rw [if_neg h, if_neg (fun h' => h ⟨by omega, h'.2⟩)]
    rw [e1, e2]
    cases ucF f' (t.drop m) with
    | none => rfl
    | some x => simp
def uoOk (l : List Int) : Bool := byOk' 600 l && ucOk l
def uoV (l : List Int) : List Int := if uoOk l then (unc l).getD [] else []
theorem uoV_no {l : List Int} (h : uoOk l = false) : uoV l = [] := by unfold uoV; rw [h]; rfl
theorem uo_none {l : List Int} (h : unc l = none) : uoOk l = false ∧ uoV l = [] := by
  have e : uoOk l = false := by unfold uoOk ucOk; rw [h]; simp
  exact ⟨e, uoV_no e⟩
theorem uo_some {l M : List Int} (h : unc l = some M) (hb : byOk' 600 l = true) : uoOk l = (decide (M.length ≤ 300) && decide (cob M = l)) ∧ (uoOk l = true → uoV l = M) := by
  have e : uoOk l = (decide (M.length ≤ 300) && decide (cob M = l)) := by unfold uoOk ucOk; rw [h, hb]; rfl
  exact ⟨e, fun h1 => by unfold uoV; rw [h1, h]; rfl⟩
theorem uoV_len (l : List Int) : (uoV l).length ≤ 300 := by
  cases h : uoOk l
  · rw [uoV_no h]; simp
  · unfold uoV
    rw [h]
    unfold uoOk ucOk at h
    cases hu : unc l with
    | none => simp
    | some M =>
      rw [hu] at h
      simp only at h
      have := of_decide_eq_true (Bool.and_eq_true_iff.1 (Bool.and_eq_true_iff.1 h).2).1
      simpa using this

set_option maxRecDepth 100000 in
set_option maxHeartbeats 1000000 in
theorem uncobsBytes_spec (w : World) (vb : Value) (l : List Int) (hl : Rd w vb l) :
    Calls Try.prog 25 #[vb] w fun e w' => ∃ v, e = .returned (.tuple #[v, .bool (uoOk l)]) ∧ Own w' w.heap.size v (uoV l) ∧ Below w.heap.size w w' := by
  have H1 := Lib.hid (l04Bytes_spec w vb l 600 (by decide) hl)
  cases h2 : byOk' 600 l
  · have e : uoOk l = false := by unfold uoOk; rw [h2]; rfl
    rw [uoV_no e, e]
    rw [h2] at H1
    clear h2 e hl
    go_enter Try.func25, Try.ntmps25
    go_wp2_with fail
    refine H1.out.mono ?_; rintro e w' ⟨rfl, rfl⟩
    go_wp2_with fail
    go_ret2
    exact ⟨_, rfl, own_none _ _, Below.refl _ _⟩
  have hb2 := Bool.and_eq_true_iff.1 (show (decide (l.length ≤ 600) && byR l) = true from h2)
  have hlen : l.length ≤ 600 := of_decide_eq_true hb2.1
  have HBY := Lib.hid hb2.2
  have HNO := Lib.hid (@uo_none l)
  have HSO := Lib.hid (fun M (h : unc l = some M) => uo_some h h2)
  have HV0 := Lib.hid (@uoV_no l)
  rw [h2] at H1
  obtain ⟨i0, hi, hz0, hz1, hz2⟩ := info_parts Try.infoInt
  have HV := Lib.hid hl
  obtain ⟨A, n, c, rfl, hn, hnc, -, -⟩ := hl
  have HN := Lib.hid hn
  rw [hn] at hlen
  clear hb2 h2 hn
  generalize uoV l = VV at *
  generalize uoOk l = OK at *
  go_enter Try.func25, Try.ntmps25
  go_wp2_with fail
  refine H1.out.mono ?_; rintro e w' ⟨rfl, rfl⟩
  go_wp2_with fail
  go_loopw [4, 5] (fun v i wr => ∃ (k : Nat) (M : List Int), i = .int .i64 k ∧ UcR l M k ∧ Own wr w.heap.size v M ∧ Below w.heap.size w wr) (fun _ i _ => n - (intOf i).toNat)
  case atStart => exact ⟨0, [], rfl, UcR.start l, World.ownsRow_made w #[] 0 (Nat.le_refl _) (by decide) rfl, (Below.refl _ _).alloc (Nat.le_refl _) _⟩
  case round =>
    obtain ⟨k, M, rfl, hur, hown, hbw⟩ := hrel
    have hk := hur.1
    have hM := hur.2.1
    rw [HN.out] at hk
    have HUR := Lib.hid hur
    have HO := Lib.hid hown
    have HB := Lib.hid hbw
    clear hur hown hbw
    by_cases hlt : k < n
    · obtain ⟨b, o, rfl, hkl, hc0⟩ := rd_at2 (w' := wr) (HV.out.keep HB.out) k hlt
      have hdr : l.drop k = l[k] :: l.drop (k + 1) := List.drop_eq_getElem_cons hkl
      have hyb := byR_at HBY.out k hkl
      obtain ⟨y, hy⟩ : ∃ y, l[k] = y := ⟨_, rfl⟩
      rw [hy] at hc0 hdr hyb
      have htl : (l.drop (k + 1)).length = n - (k + 1) := by rw [List.length_drop, HN.out]
      have hk0 : (0 : Int) ≤ (k : Int) := by omega
      have hk1 : (k : Int) < (n : Int) := by omega
      by_cases hy0 : y = 0
      · have HZ := Lib.hid (HNO.out (HUR.out.bad hdr (.inl hy0)))
        have hq : (y == 0) = true := beq_t hy0
        clear hdr hy
        go_wp2_with fail
        go_ret2
        rw [HZ.out.1, HZ.out.2]
        exact ⟨_, rfl, own_none _ _, HB.out⟩
      obtain ⟨m, rfl⟩ : ∃ m : Nat, y = (m : Int) + 1 := ⟨(y - 1).toNat, by omega⟩
      have hq : ((m : Int) + 1 == 0) = false := beq_f hy0
      by_cases hfit : k + m + 1 ≤ n
      rotate_left
      · have HZ := Lib.hid (HNO.out (HUR.out.bad hdr (.inr (by rw [htl]; omega))))
        have hg : (n : Int) < (k : Int) + ((m : Int) + 1) := by omega
        clear hdr hy
        go_wp2_with fail
        go_ret2
        rw [HZ.out.1, HZ.out.2]
        exact ⟨_, rfl, own_none _ _, HB.out⟩
      have HG := Lib.hid (HUR.out.good hdr (by rw [htl]; omega))
      have hg : ¬ (n : Int) < (k : Int) + ((m : Int) + 1) := by omega
      have hwc := win_cells (HV.out.keep HB.out) (k + 1) m (by omega)
      have htk : ((l.drop (k + 1)).take m).length = m := by rw [List.length_take, htl]; omega
      have s1 : (0 : Int) ≤ (k : Int) + 1 := by omega
      have s2 : (k : Int) + 1 ≤ (k : Int) + ((m : Int) + 1) := by omega
      have s3 : (k : Int) + ((m : Int) + 1) ≤ (c : Int) := by omega
      have s4 : ((k : Int) + 1).toNat = k + 1 := by omega
      have s5 : ((k : Int) + ((m : Int) + 1)).toNat = k + (m + 1) := by omega
      have s6 : k + (m + 1) - (k + 1) = m := by omega
      have ho := HO.out
      clear hdr hy
      by_cases hcf : c = k + 1
      · rw [if_pos hcf] at hwc
        have hite : (if c = k + 1 then some (⟨b, o, none⟩ : Addr) else some ⟨b, o + (k + 1), none⟩) = some ⟨b, o, none⟩ := if_pos hcf
        have HCF := Lib.hid hcf
        clear hcf
        go_wp2_with (at_builtin; refine wpList_append_win _ rfl _ _ 22 rfl w.heap.size 2 i0 (.int .i64 0) 1 8 Try.underlying22 hi hz0 hz1 hz2 rfl (by decide) _ _ _ rfl ho _ m _ (intVals ((l.drop (k + 1)).take m)) rfl (by rw [intVals_length, htk, Nat.mul_one]) (by exact hwc.1) (by exact hwc.2) (by intro u hu; unfold intVals at hu; obtain ⟨x, _, rfl⟩ := List.mem_map.1 hu; rfl) ?xc3 ?xc4 ?xc5 ?_)
        case xc3 => unfold maxLen; first | omega | (simp; omega)
        case xc4 => first | omega | (simp; omega)
        case xc5 => exact HB.out.size
        intro v2 w2 hown2 hgrow2
        have hb2 : Below w.heap.size w w2 := HB.out.grown hgrow2 HB.out.size (fun j hj => (World.ownsRow.lt HO.out j hj).1)
        have ho2 : Own w2 w.heap.size v2 (M ++ (l.drop (k + 1)).take m) := by
          refine own_of hown2 ?_ ?_
          · simp [htk]
          · simp [intVals]
        clear hown2 hgrow2 ho hwc
        have hdn : ((l.drop (k + 1)).drop m ≠ []) ↔ k + m + 1 < n := by
          rw [List.drop_drop, ne_eq, List.drop_eq_nil_iff, HN.out]
          omega
        have HDN := Lib.hid hdn
        clear hdn
        by_cases hz : m + 1 ≤ 254 ∧ k + m + 1 < n
        · have HG2 : Hid (UcR l ((M ++ (l.drop (k + 1)).take m) ++ [0]) (k + m + 1)) := by show UcR _ _ _; have := HG.out; rwa [if_pos ⟨hz.1, HDN.out.2 hz.2⟩] at this
          obtain ⟨z1, z2⟩ := hz
          have z3 : (m : Int) + 1 ≤ 254 := by omega
          have z4 : (k : Int) + ((m : Int) + 1) < (n : Int) := by omega
          have hl2 : (M ++ (l.drop (k + 1)).take m).length ≤ 700 := by rw [List.length_append, htk]; omega
          go_wp2_with (at_builtin; refine wpList_append_own _ rfl _ _ 22 rfl w.heap.size 2 i0 (.int .i64 0) 1 8 Try.underlying22 hi hz0 hz1 hz2 rfl (by decide) _ _ _ rfl (ho2.alloc _) ⟨w2.heap.size, 0, none⟩ 1 1 [.int .i64 0] rfl rfl (by exact c1_int1 _ _ _) (by intro u hu; simp at hu; subst hu; rfl) ?xe3 ?xe4 ?xe5 ?_)
          case xe3 => unfold maxLen; first | omega | (simp; omega)
          case xe4 => first | omega | (simp; omega)
          case xe5 => have := hb2.size; simp; omega
          intro v3 w3 hown3 hgrow3 _
          have hb3 := below_int hb2 hb2.size (Nat.le_refl _) ho2 hgrow3
          have ho3 : Own w3 w.heap.size v3 ((M ++ (l.drop (k + 1)).take m) ++ [0]) := own_of hown3 (by rw [List.length_append, List.length_append, htk]; rfl) (by simp [intVals])
          clear hown3 hgrow3 ho2 hb2
          go_wp2_with fail
          go_roundw
          case rel => exact ⟨k + m + 1, _, by first | go_num | (refine congrArg (Value.int IntKind.i64) ?_; omega), HG2.out, ho3, hb3⟩
          case measure => simp [intOf]; omega
        · have HG2 : Hid (UcR l (M ++ (l.drop (k + 1)).take m) (k + m + 1)) := by show UcR _ _ _; have := HG.out; rwa [if_neg (fun h => hz ⟨h.1, HDN.out.1 h.2⟩), List.append_nil] at this
          by_cases z1 : m + 1 ≤ 254
          · have z3 : (m : Int) + 1 ≤ 254 := by omega
            have z4 : ¬ (k : Int) + ((m : Int) + 1) < (n : Int) := by omega
            clear hz
            go_wp2_with fail
            go_roundw
            case rel => exact ⟨k + m + 1, _, by first | go_num | (refine congrArg (Value.int IntKind.i64) ?_; omega), HG2.out, ho2, hb2⟩
            case measure => simp [intOf]; omega
          · have z3 : ¬ (m : Int) + 1 ≤ 254 := by omega
            clear hz
            go_wp2_with fail
            go_roundw
            case rel => exact ⟨k + m + 1, _, by first | go_num | (refine congrArg (Value.int IntKind.i64) ?_; omega), HG2.out, ho2, hb2⟩
            case measure => simp [intOf]; omega
      · rw [if_neg hcf, Option.map_some, add_plain2] at hwc
        go_wp2_with (at_builtin; refine wpList_append_win _ rfl _ _ 22 rfl w.heap.size 2 i0 (.int .i64 0) 1 8 Try.underlying22 hi hz0 hz1 hz2 rfl (by decide) _ _ _ rfl ho _ m _ (intVals ((l.drop (k + 1)).take m)) rfl (by rw [intVals_length, htk, Nat.mul_one]) (by exact hwc.1) (by exact hwc.2) (by intro u hu; unfold intVals at hu; obtain ⟨x, _, rfl⟩ := List.mem_map.1 hu; rfl) ?yc3 ?yc4 ?yc5 ?_)
        case yc3 => unfold maxLen; first | omega | (simp; omega)
        case yc4 => first | omega | (simp; omega)
        case yc5 => exact HB.out.size
        intro v2 w2 hown2 hgrow2
        have hb2 : Below w.heap.size w w2 := HB.out.grown hgrow2 HB.out.size (fun j hj => (World.ownsRow.lt HO.out j hj).1)
        have ho2 : Own w2 w.heap.size v2 (M ++ (l.drop (k + 1)).take m) := by
          refine own_of hown2 ?_ ?_
          · simp [htk]
          · simp [intVals]
        clear hown2 hgrow2 ho hwc
        have hdn : ((l.drop (k + 1)).drop m ≠ []) ↔ k + m + 1 < n := by
          rw [List.drop_drop, ne_eq, List.drop_eq_nil_iff, HN.out]
          omega
        have HDN := Lib.hid hdn
        clear hdn
        by_cases hz : m + 1 ≤ 254 ∧ k + m + 1 < n
        · have HG2 : Hid (UcR l ((M ++ (l.drop (k + 1)).take m) ++ [0]) (k + m + 1)) := by show UcR _ _ _; have := HG.out; rwa [if_pos ⟨hz.1, HDN.out.2 hz.2⟩] at this
          obtain ⟨z1, z2⟩ := hz
          have z3 : (m : Int) + 1 ≤ 254 := by omega
          have z4 : (k : Int) + ((m : Int) + 1) < (n : Int) := by omega
          have hl2 : (M ++ (l.drop (k + 1)).take m).length ≤ 700 := by rw [List.length_append, htk]; omega
          go_wp2_with (at_builtin; refine wpList_append_own _ rfl _ _ 22 rfl w.heap.size 2 i0 (.int .i64 0) 1 8 Try.underlying22 hi hz0 hz1 hz2 rfl (by decide) _ _ _ rfl (ho2.alloc _) ⟨w2.heap.size, 0, none⟩ 1 1 [.int .i64 0] rfl rfl (by exact c1_int1 _ _ _) (by intro u hu; simp at hu; subst hu; rfl) ?ye3 ?ye4 ?ye5 ?_)
          case ye3 => unfold maxLen; first | omega | (simp; omega)
          case ye4 => first | omega | (simp; omega)
          case ye5 => have := hb2.size; simp; omega
          intro v3 w3 hown3 hgrow3 _
          have hb3 := below_int hb2 hb2.size (Nat.le_refl _) ho2 hgrow3
          have ho3 : Own w3 w.heap.size v3 ((M ++ (l.drop (k + 1)).take m) ++ [0]) := own_of hown3 (by rw [List.length_append, List.length_append, htk]; rfl) (by simp [intVals])
          clear hown3 hgrow3 ho2 hb2
          go_wp2_with fail
          go_roundw
          case rel => exact ⟨k + m + 1, _, by first | go_num | (refine congrArg (Value.int IntKind.i64) ?_; omega), HG2.out, ho3, hb3⟩
          case measure => simp [intOf]; omega
        · have HG2 : Hid (UcR l (M ++ (l.drop (k + 1)).take m) (k + m + 1)) := by show UcR _ _ _; have := HG.out; rwa [if_neg (fun h => hz ⟨h.1, HDN.out.1 h.2⟩), List.append_nil] at this
          by_cases z1 : m + 1 ≤ 254
          · have z3 : (m : Int) + 1 ≤ 254 := by omega
            have z4 : ¬ (k : Int) + ((m : Int) + 1) < (n : Int) := by omega
            clear hz
            go_wp2_with fail
            go_roundw
            case rel => exact ⟨k + m + 1, _, by first | go_num | (refine congrArg (Value.int IntKind.i64) ?_; omega), HG2.out, ho2, hb2⟩
            case measure => simp [intOf]; omega
          · have z3 : ¬ (m : Int) + 1 ≤ 254 := by omega
            clear hz
            go_wp2_with fail
            go_roundw
            case rel => exact ⟨k + m + 1, _, by first | go_num | (refine congrArg (Value.int IntKind.i64) ?_; omega), HG2.out, ho2, hb2⟩
            case measure => simp [intOf]; omega
    · have HE := Lib.hid (HSO.out M (HUR.out.fin (by rw [HN.out]; omega)))
      obtain ⟨hokx, hyx⟩ := HE.out
      have HX := Lib.hid (l04Cobs_any wr _ M HO.out.rd (by omega))
      have hown := HO.out
      obtain ⟨A6, c6, rfl⟩ := own_shape hown
      have hk1 : ¬ (k : Int) < (n : Int) := by omega
      by_cases h3 : M.length ≤ 300
      · have hm3 : ¬ (300 : Int) < (M.length : Int) := by omega
        rw [decide_eq_true h3, Bool.true_and] at hokx
        by_cases h4 : cob M = l
        · rw [decide_eq_true h4] at hokx
          have HZ := Lib.hid (And.intro hokx (hyx hokx))
          have H4 := Lib.hid (decide_eq_true h4)
          clear hokx hyx HE hown h4
          generalize M.length = N9 at *
          go_wp2_with fail
          refine HX.out.mono ?_; rintro e w2 ⟨v2, rfl, ho2, hb2⟩
          have HSM := Lib.hid (l00Same_any w2 v2 (.slice A n c) _ l ho2.rd ((HV.out.keep HB.out).keep hb2))
          have B2 := Lib.hid (HB.out.trans (hb2.mono HB.out.size))
          have O2 := Lib.hid (HO.out.keep hb2)
          clear ho2 hb2
          rw [H4.out] at HSM
          go_wp2_with fail
          refine HSM.out.mono ?_; rintro e w3 ⟨rfl, q3, rfl⟩
          go_wp2_with fail
          go_ret2
          rw [HZ.out.1, HZ.out.2]
          exact ⟨_, rfl, own_drewN O2.out q3, below_drewN B2.out q3⟩
        · rw [decide_eq_false h4] at hokx
          have HZ := Lib.hid (And.intro hokx (HV0.out hokx))
          have H4 := Lib.hid (decide_eq_false h4)
          clear hokx hyx HE hown h4
          generalize M.length = N9 at *
          go_wp2_with fail
          refine HX.out.mono ?_; rintro e w2 ⟨v2, rfl, ho2, hb2⟩
          have HSM := Lib.hid (l00Same_any w2 v2 (.slice A n c) _ l ho2.rd ((HV.out.keep HB.out).keep hb2))
          have B2 := Lib.hid (HB.out.trans (hb2.mono HB.out.size))
          clear ho2 hb2
          rw [H4.out] at HSM
          go_wp2_with fail
          refine HSM.out.mono ?_; rintro e w3 ⟨rfl, q3, rfl⟩
          go_wp2_with fail
          go_ret2
          rw [HZ.out.1, HZ.out.2]
          exact ⟨_, rfl, own_none _ _, below_drewN B2.out q3⟩
      · have hm3 : (300 : Int) < (M.length : Int) := by omega
        rw [decide_eq_false h3, Bool.false_and] at hokx
        have HZ := Lib.hid (And.intro hokx (HV0.out hokx))
        clear hokx hyx HE hown
        generalize M.length = N9 at *
        go_wp2_with fail
        go_ret2
        rw [HZ.out.1, HZ.out.2]
        exact ⟨_, rfl, own_none _ _, HB.out⟩
end Go.Proofs.Ytllkojakeoennab
