/- The lengths of runs of numbers; both LongestFlat. -/
import Derived.Test.YtmhdjimdhcephaaLvJ
namespace Go.Proofs.Ytmhdjimdhcephaa
open Go Go.RowKit
set_option linter.unusedVariables false

set_option maxRecDepth 100000 in
set_option maxHeartbeats 2000000 in
theorem lengths_any (w : World) (v : Value) (l : List Int) (h : Rd w v l) (hl : l.length ≤ 800) :
    Calls Try.prog 52 #[v] w fun e w' => ∃ u, e = .returned u ∧ Own w' w.heap.size u (flK l l.length) ∧ Below w.heap.size w w' := by
  obtain ⟨i0, hi, hz0, hz1, hz2⟩ := info_parts Try.infoInt
  obtain ⟨A, n, c, rfl, hn, -, -, r⟩ := h
  rw [hn] at hl ⊢
  have HN := Lib.hid hn
  have HR := Lib.hid r
  clear hn r
  go_enter Try.func52, Try.ntmps52
  go_wp2_with fail
  go_loopw [3, 7] (fun v i wr => ∃ k : Nat, k ≤ n ∧ i = .int .i64 k ∧ wr.ownsRow w.heap.size 2 1 v (flK l k).length (intVals (flK l k)) ∧ Below w.heap.size w wr) (fun _ i _ => n - (intOf i).toNat)
  case atStart => exact ⟨0, Nat.zero_le _, rfl, World.ownsRow_nil _ _ _ _, Below.refl _ _⟩
  case round =>
    obtain ⟨k, hk, rfl, hown, hb⟩ := hrel
    have hB := hb.size
    by_cases hlt : k < n
    · obtain ⟨b, o, rfl, hlt0, hc⟩ := HR.out (by omega)
      have hkl : k < l.length := by have := HN.out; omega
      have hcc : ∀ i (h : i < l.length), wr.cell? ⟨b, o + i, none⟩ = some (.int .i64 l[i]) := fun i h => (hb.cell (p := ⟨b, o + i, none⟩) hlt0).trans (hc i h)
      have hx1 := getD_at hkl
      have hle := flK_len l k
      clear hc
      by_cases hnew : k = 0 ∨ l.getD k 0 ≠ l.getD (k - 1) 0
      · have HR1 := Lib.hid (flK_new l k hnew)
        generalize hrk : flK l k = R at hown hle
        have HRK := Lib.hid hrk
        clear hrk
        have hHS : w.heap.size ≤ (wr.alloc (.cells #[.int .i64 0] 2)).heap.size := by simp; omega
        have hfin : ∀ (g cap : Nat) (w1 : World), w1.ownsRow w.heap.size 2 1 (.slice (some ⟨g, 0, none⟩) (R.length + 1) cap) (R.length + 1) (intVals R ++ [.int .i64 0]) → Below w.heap.size w w1 → (w1.setCell ⟨g, R.length, none⟩ (.int .i64 1)).ownsRow w.heap.size 2 1 (.slice (some ⟨g, 0, none⟩) (R.length + 1) cap) (flK l (k + 1)).length (intVals (flK l (k + 1))) := by
          intro g cap w1 h1 _
          have h2 := (h1.stored R.length (.int .i64 1)).1
          rw [set_new] at h2
          rw [HR1.out, HRK.out]
          simpa using h2
        have HFIN := Lib.hid hfin
        clear hfin
        rcases Nat.eq_zero_or_pos k with hk0 | hkp
        · subst hk0
          have h0 : ((0 : Int) == 0) = true := rfl
          clear hnew hx1 hcc
          go_wp2_with fail
          go_quiet (fail)
          go_wp2_with (at_builtin; refine wpList_append_lies _ rfl _ _ 22 rfl w.heap.size 2 i0 (.int .i64 0) 1 8 Try.underlying22 hi hz0 hz1 hz2 rfl (by decide) _ _ _ rfl (hown.alloc _) ⟨wr.heap.size, 0, none⟩ 1 1 [.int .i64 0] rfl rfl ?c1 ?c2 (by decide) ?c3 ?c4 ?c5 (wr.heap.size + 1) (by simp) ?_)
          case c1 => exact c1_int _ _ _
          case c2 => intro u hu; simp at hu; subst hu; rfl
          case c3 => unfold maxLen; omega
          case c4 => omega
          case c5 => exact hHS
          intro g cap w1 hown1 hgrow hat hlt1
          have hb1 := below_row (below_dn hb nq) hB (Nat.le_refl _) (own_drewN hown nq) hgrow
          have hst1 := HFIN.out g cap w1 hown1 hb1
          have hc := hown1.cellAt R.length (by omega)
          have hat2 : (intVals R ++ [Value.int .i64 0])[R.length]? = some (.int .i64 0) := by
            rw [List.getElem?_append_right (by rw [intVals_length]; omega), intVals_length, Nat.sub_self]; rfl
          rw [hat2] at hc
          have hfr := hown1.frozenAt R.length
          have hgB : w.heap.size ≤ g := by
            obtain ⟨g', cap', e', hb', -, -, -⟩ := own_some hown1 (by omega)
            injection e' with e' _ _
            injection e' with e'
            injection e' with e' _ _
            omega
          have HST := Lib.hid hst1
          have HBS := Lib.hid (hb1.setCell (p := ⟨g, R.length, none⟩) (by show _ ≤ g; omega) (.int .i64 1))
          have r1 : (0 : Int) ≤ (R.length : Int) := by omega
          have r2 : (R.length : Int) ≤ 1000 := by omega
          clear hown hown1 hgrow hat hlt1 hb hb1 hst1 hat2 hgB hB hHS HR
          go_wp2_with fail
          go_roundw
          case rel => exact ⟨_, by omega, by go_num, HST.out, HBS.out⟩
          case measure => simp [intOf]; omega
        · obtain ⟨j, rfl⟩ : ∃ j, k = j + 1 := ⟨k - 1, by omega⟩
          have hx2 := getD_at (l := l) (k := j) (by omega)
          have hne : (l[j + 1] != l[j]'(by omega)) = true := by
            apply bne_t
            rcases hnew with h | h
            · omega
            · rw [hx1, show j + 1 - 1 = j from rfl, hx2] at h; exact h
          have hd1 := hcc (j + 1) hkl
          have hd2 := hcc j (by omega)
          clear hnew hx1 hx2 hcc
          generalize l[j + 1] = x at *
          generalize l[j]'(by omega) = y at *
          have h0 : (((j : Int) + 1) == 0) = false := beq_f (by omega)
          have i1 : (0 : Int) ≤ (j : Int) := by omega
          have i2 : (j : Int) < (n : Int) := by omega
          have i3 : (j : Int) + 1 < (n : Int) := by omega
          go_wp2_with fail
          have w1 : IntKind.i64.wrap (j : Int) = (j : Int) := IntWalk.i64_in _ (by omega)
          have w2 : ((j : Int) + 1).toNat = j + 1 := by omega
          have w3 : (0 : Int) ≤ (j : Int) + 1 := by omega
          go_quiet (fail)
          clear w1
          go_wp2_with (at_builtin; refine wpList_append_lies _ rfl _ _ 22 rfl w.heap.size 2 i0 (.int .i64 0) 1 8 Try.underlying22 hi hz0 hz1 hz2 rfl (by decide) _ _ _ rfl (hown.alloc _) ⟨wr.heap.size, 0, none⟩ 1 1 [.int .i64 0] rfl rfl ?c1 ?c2 (by decide) ?c3 ?c4 ?c5 (wr.heap.size + 1) (by simp) ?_)
          case c1 => exact c1_int _ _ _
          case c2 => intro u hu; simp at hu; subst hu; rfl
          case c3 => unfold maxLen; omega
          case c4 => omega
          case c5 => exact hHS
          intro g cap w1 hown1 hgrow hat hlt1
          have hb1 := below_row (below_dn hb nq) hB (Nat.le_refl _) (own_drewN hown nq) hgrow
          have hst1 := HFIN.out g cap w1 hown1 hb1
          have hc := hown1.cellAt R.length (by omega)
          have hat2 : (intVals R ++ [Value.int .i64 0])[R.length]? = some (.int .i64 0) := by
            rw [List.getElem?_append_right (by rw [intVals_length]; omega), intVals_length, Nat.sub_self]; rfl
          rw [hat2] at hc
          have hfr := hown1.frozenAt R.length
          have hgB : w.heap.size ≤ g := by
            obtain ⟨g', cap', e', hb', -, -, -⟩ := own_some hown1 (by omega)
            injection e' with e' _ _
            injection e' with e'
            injection e' with e' _ _
            omega
          have HST := Lib.hid hst1
          have HBS := Lib.hid (hb1.setCell (p := ⟨g, R.length, none⟩) (by show _ ≤ g; omega) (.int .i64 1))
          have r1 : (0 : Int) ≤ (R.length : Int) := by omega
          have r2 : (R.length : Int) ≤ 1000 := by omega
          clear hown hown1 hgrow hat hlt1 hb hb1 hst1 hat2 hgB hB hHS HR hd1 hd2
          go_wp2_with fail
          go_roundw
          case rel => exact ⟨_, by omega, by go_num, HST.out, HBS.out⟩
          case measure => simp [intOf]; omega
      · have HR1 := Lib.hid (flK_old l k hnew)
        have hkp : 0 < k := by omega
        have hpos := flK_pos l k hkp
        have hbd := flK_bd l k ((flK l k).length - 1)
        generalize hrk : flK l k = R at hown hle hpos hbd
        have HRK := Lib.hid hrk
        clear hrk
        obtain ⟨m, hm⟩ : ∃ m, R.length = m + 1 := ⟨R.length - 1, by omega⟩
        have hatm : (intVals R)[m]? = some (.int .i64 (R.getD m 0)) := by
          rw [intVals_at R m (by omega), List.getD_eq_getElem?_getD, List.getElem?_eq_getElem (by omega)]; rfl
        rw [hm, show m + 1 - 1 = m from rfl] at hbd
        obtain ⟨x, hx⟩ : ∃ x, R.getD m 0 = x := ⟨_, rfl⟩
        have HX := Lib.hid hx
        rw [hx] at hbd hatm
        clear hx
        obtain ⟨q1, q2⟩ := hbd
        have q3 : x ≤ 1000 := by omega
        rw [hm] at hown hle hpos
        obtain ⟨g, cap, rfl, hg1, hg2, hg3, hg4⟩ := own_some hown (by omega)
        have hc := (hown.cellAt m (by omega)).trans hatm
        have hfr := hown.frozenAt m
        have hst := (hown.stored m (.int .i64 (x + 1))).1
        have hset : (wr.setCell ⟨g, m, none⟩ (.int .i64 (x + 1))).ownsRow w.heap.size 2 1 (.slice (some ⟨g, 0, none⟩) (m + 1) cap) (flK l (k + 1)).length (intVals (flK l (k + 1))) := by
          rw [HR1.out, HRK.out, hm, show m + 1 - 1 = m from rfl, HX.out, ← set_old, List.length_set, hm]
          exact hst
        have HSET := Lib.hid hset
        have HBS := Lib.hid (hb.setCell (p := ⟨g, m, none⟩) (by show _ ≤ g; omega) (.int .i64 (x + 1)))
        obtain ⟨j, rfl⟩ : ∃ j, k = j + 1 := ⟨k - 1, by omega⟩
        have hx2 := getD_at (l := l) (k := j) (by omega)
        have heq : l[j + 1] = l[j]'(by omega) := by
          by_cases h6 : l.getD (j + 1) 0 = l.getD (j + 1 - 1) 0
          · rw [hx1, show j + 1 - 1 = j from rfl, hx2] at h6; exact h6
          · exact absurd (Or.inr h6) hnew
        have hd1 := hcc (j + 1) hkl
        have hd2 := hcc j (by omega)
        rw [heq] at hd1
        clear hnew hx1 hx2 heq hcc
        generalize l[j]'(by omega) = y at *
        have hne : (y != y) = false := bne_f rfl
        have h0 : (((j : Int) + 1) == 0) = false := beq_f (by omega)
        have i1 : (0 : Int) ≤ (j : Int) := by omega
        have i2 : (j : Int) < (n : Int) := by omega
        have i3 : (j : Int) + 1 < (n : Int) := by omega
        have i4 : (0 : Int) ≤ (m : Int) := by omega
        have i5 : (m : Int) ≤ 1000 := by omega
        clear hst hset hatm hown hb hm hB
        go_wp2_with fail
        have w1 : IntKind.i64.wrap (j : Int) = (j : Int) := IntWalk.i64_in _ (by omega)
        have w2 : ((j : Int) + 1).toNat = j + 1 := by omega
        have w3 : (0 : Int) ≤ (j : Int) + 1 := by omega
        go_quiet (fail)
        clear w1
        go_wp2_with fail
        go_roundw
        case rel => exact ⟨j + 1 + 1, by omega, by go_num, HSET.out, below_dn HBS.out _⟩
        case measure => simp [intOf]; omega
    · obtain rfl : k = n := by omega
      go_wp2_with fail
      go_ret
      exact ⟨_, rfl, hown, hb⟩

theorem rn_new (l : List Int) (k : Nat) (h : k = 0 ∨ l.getD k 0 ≠ l.getD (k - 1) 0) : (rnI l (k + 1)).2 = 1 := by
  rw [rnI]
  by_cases hk : k = 0
  · rw [if_pos hk]
  · rw [if_neg hk, if_pos (h.resolve_left hk)]
theorem rn_old (l : List Int) (k : Nat) (h : ¬ (k = 0 ∨ l.getD k 0 ≠ l.getD (k - 1) 0)) : (rnI l (k + 1)).2 = (rnI l k).2 + 1 := by
  rw [rnI, if_neg (fun e => h (.inl e)), if_neg (fun e => h (.inr e))]
set_option maxRecDepth 100000 in
set_option maxHeartbeats 2000000 in
theorem l10Flat_any (w : World) (v : Value) (l : List Int) (h : Rd w v l) (hl : l.length ≤ 800) :
    Calls Try.prog 51 #[v] w fun e w' => e = .returned (.int .i64 (mxI l l.length)) ∧ ∃ q, w' = w.drewN q := by
  obtain ⟨A, n, c, rfl, hn, -, -, r⟩ := h
  rw [hn] at hl ⊢
  have HN := Lib.hid hn
  have HR := Lib.hid r
  clear hn r
  go_enter Try.func51, Try.ntmps51
  go_wp2_with fail
  go_loopw [3, 4, 5] (fun m rr i wr => ∃ k q : Nat, k ≤ n ∧ i = .int .i64 k ∧ m = .int .i64 (mxI l k) ∧ rr = .int .i64 (rnI l k).2 ∧ wr = w.drewN q) (fun _ _ i _ => n - (intOf i).toNat)
  case atStart => exact ⟨0, 0, Nat.zero_le _, rfl, rfl, rfl, rfl⟩
  case round =>
    obtain ⟨k, q, hk, rfl, rfl, rfl, rfl⟩ := hrel
    by_cases hlt : k < n
    · obtain ⟨b, o, rfl, hlt0, hcc⟩ := HR.out (by omega)
      have hkl : k < l.length := by have := HN.out; omega
      have hx1 := getD_at hkl
      have hbd := rnI_bd l k
      have hmb := mxI_bd l k
      have w9 : IntKind.i64.wrap ((rnI l k).2 + 1) = (rnI l k).2 + 1 := IntWalk.i64_in _ (by omega)
      have HM : Hid (mxI l (k + 1) = max (mxI l k) (rnI l (k + 1)).2) := rfl
      rcases Nat.eq_zero_or_pos k with hk0 | hkp
      · subst hk0
        have HRN := Lib.hid (rn_new l 0 (.inl rfl))
        have hz : (rnI l 0).2 = 0 := rfl
        rw [hz] at w9 hbd ⊢
        rw [HRN.out] at HM
        clear hx1 hcc
        go_wp2_with fail
        go_quiet (fail)
        go_wp2_with fail
        refine (lMax_any _ _ _).mono ?_; rintro e w' ⟨rfl, rfl⟩
        go_wp2_with fail
        go_roundw
        case rel => exact ⟨1, _, by omega, by go_num, by rw [HM.out], by rw [HRN.out], rfl⟩
        case measure => simp [intOf]; omega
      · obtain ⟨j, rfl⟩ : ∃ j, k = j + 1 := ⟨k - 1, by omega⟩
        have hx2 := getD_at (l := l) (k := j) (by omega)
        have hd1 := hcc (j + 1) hkl
        have hd2 := hcc j (by omega)
        have i1 : (0 : Int) ≤ (j : Int) := by omega
        have i2 : (j : Int) < (n : Int) := by omega
        have i3 : (j : Int) + 1 < (n : Int) := by omega
        have h0 : ¬ ((j : Int) + 1 ≤ 0) := by omega
        have h00 : (0 : Int) < (j : Int) + 1 := by omega
        have w2 : ((j : Int) + 1).toNat = j + 1 := by omega
        have w3 : (0 : Int) ≤ (j : Int) + 1 := by omega
        by_cases he : l[j + 1] = l[j]'(by omega)
        · have HRN := Lib.hid (rn_old l (j + 1) (by rw [hx1, show j + 1 - 1 = j from rfl, hx2]; rintro (h | h); omega; exact h he))
          rw [HRN.out] at HM
          rw [he] at hd1
          clear hx1 hx2 hcc he
          generalize l[j]'(by omega) = y at *
          have hne : (y != y) = false := bne_f rfl
          go_wp2_with fail
          have w1 : IntKind.i64.wrap (j : Int) = (j : Int) := IntWalk.i64_in _ (by omega)
          go_quiet (fail)
          clear w1
          go_wp2_with fail
          refine (lMax_any _ _ _).mono ?_; rintro e w' ⟨rfl, rfl⟩
          go_wp2_with fail
          go_roundw
          case rel => exact ⟨j + 1 + 1, _, by omega, by go_num, by rw [HM.out], by rw [HRN.out], rfl⟩
          case measure => simp [intOf]; omega
        · have HRN := Lib.hid (rn_new l (j + 1) (.inr (by rw [hx1, show j + 1 - 1 = j from rfl, hx2]; exact he)))
          rw [HRN.out] at HM
          have hne : (l[j + 1] != l[j]'(by omega)) = true := bne_t he
          clear hx1 hx2 hcc he
          generalize l[j + 1] = x at *
          generalize l[j]'(by omega) = y at *
          go_wp2_with fail
          have w1 : IntKind.i64.wrap (j : Int) = (j : Int) := IntWalk.i64_in _ (by omega)
          go_quiet (fail)
          clear w1
          go_wp2_with fail
          refine (lMax_any _ _ _).mono ?_; rintro e w' ⟨rfl, rfl⟩
          go_wp2_with fail
          go_roundw
          case rel => exact ⟨j + 1 + 1, _, by omega, by go_num, by rw [HM.out], by rw [HRN.out], rfl⟩
          case measure => simp [intOf]; omega
    · obtain rfl : k = n := by omega
      go_wp2_with fail
      go_ret
      exact ⟨rfl, _, rfl⟩
theorem ret_ibL {x y : Int} {c d : Bool} (h : x = y) (h2 : c = d) : Ending.returned (.tuple #[.int .i64 x, .bool c]) = .returned (.tuple #[.int .i64 y, .bool d]) := by rw [h, h2]
theorem flt_no {l : List Int} (h : lvB l = false) : fltV l = 0 := by unfold fltV; rw [h]; rfl
theorem flt_yes {l : List Int} (h : lvB l = true) : fltV l = mxI l l.length := by unfold fltV; rw [h]; rfl
set_option maxRecDepth 100000 in
set_option maxHeartbeats 1000000 in
theorem longest_specL (w : World) (v : Value) (l : List Int) (h : Rd w v l) :
    Calls Try.prog 25 #[v] w fun e w' => e = .returned (.tuple #[.int .i64 (fltV l), .bool (lvB l)]) ∧ Below w.heap.size w w' := by
  have HC := Lib.hid (l10Is_any w v l h)
  cases g0 : lvB l
  · rw [flt_no g0]
    rw [g0] at HC
    obtain ⟨A, cp, rfl⟩ := rd_sh h
    clear g0 h
    go_enter Try.func25, Try.ntmps25
    go_wp2_with fail
    refine HC.out.mono ?_; rintro e w' ⟨rfl, rfl⟩
    go_wp2_with fail
    go_ret2
    exact ⟨rfl, Below.refl _ _⟩
  · rw [flt_yes g0]
    rw [g0] at HC
    have HF := Lib.hid (l10Flat_any w v l h (lvB_parts g0).1)
    obtain ⟨A, cp, rfl⟩ := rd_sh h
    clear g0 h
    generalize mxI l l.length = M at *
    go_enter Try.func25, Try.ntmps25
    go_wp2_with fail
    refine HC.out.mono ?_; rintro e w' ⟨rfl, rfl⟩
    go_wp2_with fail
    refine HF.out.mono ?_; rintro e w' ⟨rfl, q, rfl⟩
    go_wp2_with fail
    go_ret2
    exact ⟨rfl, below_drewN (Below.refl _ _) q⟩
set_option maxRecDepth 100000 in
set_option maxHeartbeats 1000000 in
theorem longest_implL (w : World) (v : Value) (l : List Int) (h : Rd w v l) :
    Calls Try.prog 26 #[v] w fun e w' => e = .returned (.tuple #[.int .i64 (fltV l), .bool (lvB l)]) ∧ Below w.heap.size w w' := by
  have HC := Lib.hid (areLevels_any w v l h)
  cases g0 : lvB l
  · rw [flt_no g0]
    rw [g0] at HC
    obtain ⟨A, cp, rfl⟩ := rd_sh h
    clear g0 h
    go_enter Try.func26, Try.ntmps26
    go_wp2_with fail
    refine HC.out.mono ?_; rintro e w' ⟨rfl, rfl⟩
    go_wp2_with fail
    go_ret2
    exact ⟨rfl, Below.refl _ _⟩
  · rw [flt_yes g0]
    rw [g0] at HC
    have hl := (lvB_parts g0).1
    have HL := Lib.hid (lengths_any w v l h hl)
    by_cases hz : l.length = 0
    · have e0 : flK l l.length = [] := by rw [hz]; rfl
      have e1 : mxI l l.length = 0 := by rw [hz]; rfl
      rw [e1]
      rw [e0] at HL
      obtain ⟨A, cp, rfl⟩ := rd_sh h
      clear g0 h e0 e1 hz hl
      go_enter Try.func26, Try.ntmps26
      go_wp2_with fail
      refine HC.out.mono ?_; rintro e w' ⟨rfl, rfl⟩
      go_wp2_with fail
      refine HL.out.mono ?_; rintro e w' ⟨u, rfl, ho, hb⟩
      obtain ⟨A1, c1, hv⟩ := own_shape ho
      subst hv
      have HB := Lib.hid hb
      clear ho hb
      have z0 : ((([] : List Int).length : Int) == 0) = true := rfl
      go_wp2_with fail
      go_ret2
      exact ⟨rfl, HB.out⟩
    · obtain ⟨m1, m2⟩ := mxI_max l l.length (by omega)
      have hpos := flK_pos l l.length (by omega)
      have HM1 := Lib.hid m1
      have HM2 := Lib.hid m2
      obtain ⟨A, cp, rfl⟩ := rd_sh h
      clear g0 h m1 m2 hz hl
      generalize mxI l l.length = M at *
      generalize flK l l.length = F at *
      go_enter Try.func26, Try.ntmps26
      go_wp2_with fail
      refine HC.out.mono ?_; rintro e w' ⟨rfl, rfl⟩
      go_wp2_with fail
      refine HL.out.mono ?_; rintro e w1 ⟨u, rfl, ho, hb⟩
      have HMX := Lib.hid (max_any w1 u F ho.rd (by omega))
      obtain ⟨A1, c1, hv⟩ := own_shape ho
      subst hv
      have HB := Lib.hid hb
      clear ho hb
      have z0 : ((F.length : Int) == 0) = false := beq_f (by omega)
      go_wp2_with fail
      refine HMX.out.mono ?_; rintro e w' ⟨M', rfl, hM, rfl⟩
      have HE : Hid (M' = M) := by
        show _ = _
        have a1 := hM.2 M HM1.out
        have a2 := HM2.out M' hM.1
        omega
      clear hM
      go_wp2_with fail
      go_ret2
      exact ⟨ret_ibL HE.out rfl, HB.out⟩
theorem chn_no {l : List Int} (h : lvB l = false) : chnV l = 0 := by unfold chnV; rw [h]; rfl
theorem chn_yes {l : List Int} (h : lvB l = true) : chnV l = chI l l.length := by unfold chnV; rw [h]; rfl
theorem ch_new (l : List Int) (k : Nat) (h0 : ¬ k = 0) (h : l.getD k 0 ≠ l.getD (k - 1) 0) : chI l (k + 1) = chI l k + 1 := by rw [chI, if_neg h0, if_pos h]
theorem ch_old (l : List Int) (k : Nat) (h0 : ¬ k = 0) (h : l.getD k 0 = l.getD (k - 1) 0) : chI l (k + 1) = chI l k := by rw [chI, if_neg h0, if_neg (fun e => e h)]
set_option maxRecDepth 100000 in
set_option maxHeartbeats 2000000 in
theorem changes_spec (w : World) (v : Value) (l : List Int) (h : Rd w v l) :
    Calls Try.prog 27 #[v] w fun e w' => e = .returned (.tuple #[.int .i64 (chnV l), .bool (lvB l)]) ∧ Below w.heap.size w w' := by
  have HC := Lib.hid (l10Is_any w v l h)
  cases g0 : lvB l
  · rw [chn_no g0]
    rw [g0] at HC
    obtain ⟨A, cp, rfl⟩ := rd_sh h
    clear g0 h
    go_enter Try.func27, Try.ntmps27
    go_wp2_with fail
    refine HC.out.mono ?_; rintro e w' ⟨rfl, rfl⟩
    go_wp2_with fail
    go_ret2
    exact ⟨rfl, Below.refl _ _⟩
  · rw [chn_yes g0]
    rw [g0] at HC
    have hl := (lvB_parts g0).1
    obtain ⟨A, n, c, rfl, hn, -, -, r⟩ := h
    rw [hn] at hl ⊢
    have HN := Lib.hid hn
    have HR := Lib.hid r
    clear g0 hn r
    go_enter Try.func27, Try.ntmps27
    go_wp2_with fail
    refine HC.out.mono ?_; rintro e w' ⟨rfl, rfl⟩
    go_wp2_with fail
    go_loopw [4, 5] (fun m i wr => ∃ k q : Nat, (k + 1 ≤ n ∨ k = 0) ∧ i = .int .i64 ((k : Int) + 1) ∧ m = .int .i64 (chI l (k + 1)) ∧ wr = w.drewN q) (fun _ i _ => n - (intOf i).toNat)
    case atStart => exact ⟨0, 0, .inr rfl, rfl, rfl, rfl⟩
    case round =>
      obtain ⟨k, q, hk, rfl, rfl, rfl⟩ := hrel
      by_cases hlt : k + 1 < n
      · obtain ⟨b, o, rfl, hlt0, hcc⟩ := HR.out (by omega)
        have hkl : k + 1 < l.length := by have := HN.out; omega
        have hx1 := getD_at hkl
        have hx2 := getD_at (l := l) (k := k) (by omega)
        have hcb := chI_bd l (k + 1)
        have w9 : IntKind.i64.wrap (chI l (k + 1) + 1) = chI l (k + 1) + 1 := IntWalk.i64_in _ (by omega)
        have hd1 := hcc (k + 1) hkl
        have hd2 := hcc k (by omega)
        have i1 : (0 : Int) ≤ (k : Int) := by omega
        have i2 : (k : Int) < (n : Int) := by omega
        have i3 : (k : Int) + 1 < (n : Int) := by omega
        have w2 : ((k : Int) + 1).toNat = k + 1 := by omega
        have w3 : (0 : Int) ≤ (k : Int) + 1 := by omega
        by_cases he : l[k + 1] = l[k]'(by omega)
        · have HRN := Lib.hid (ch_old l (k + 1) (by omega) (by rw [hx1, show k + 1 - 1 = k from rfl, hx2]; exact he))
          rw [he] at hd1
          clear hx1 hx2 hcc he
          generalize l[k]'(by omega) = y at *
          have hne : (y != y) = false := bne_f rfl
          go_wp2_with fail
          have w1 : IntKind.i64.wrap (k : Int) = (k : Int) := IntWalk.i64_in _ (by omega)
          go_quiet (fail)
          clear w1
          go_wp2_with fail
          go_roundw
          case rel => exact ⟨k + 1, _, by omega, by go_num, by rw [HRN.out], rfl⟩
          case measure => simp [intOf]; omega
        · have HRN := Lib.hid (ch_new l (k + 1) (by omega) (by rw [hx1, show k + 1 - 1 = k from rfl, hx2]; exact he))
          have hne : (l[k + 1] != l[k]'(by omega)) = true := bne_t he
          clear hx1 hx2 hcc he
          generalize l[k + 1] = x at *
          generalize l[k]'(by omega) = y at *
          go_wp2_with fail
          have w1 : IntKind.i64.wrap (k : Int) = (k : Int) := IntWalk.i64_in _ (by omega)
          go_quiet (fail)
          clear w1
          go_wp2_with fail
          go_roundw
          case rel => exact ⟨k + 1, _, by omega, by go_num, by rw [HRN.out], rfl⟩
          case measure => simp [intOf]; omega
      · have HE : Hid (chI l (k + 1) = chI l n) := by
          show _ = _
          by_cases h1 : k + 1 = n
          · rw [h1]
          · obtain rfl : k = 0 := by omega
            obtain rfl : n = 0 := by omega
            rfl
        have hk1 : ¬ ((k : Int) + 1 < (n : Int)) := by omega
        go_wp2_with fail
        go_ret2
        exact ⟨ret_ibL HE.out rfl, below_drewN (Below.refl _ _) q⟩
end Go.Proofs.Ytmhdjimdhcephaa
