/- Both RunLengths: the program's counts equal bytes of a list. -/
import Derived.Test.YtjmaapbodacggaaLvP
import Derived.Test.YtjmaapbodacggaaRuns
import Derived.Test.YtjmaapbodacggaaRd
namespace Go.Proofs.Ytjmaapbodacggaa
open Go Go.RowKit
set_option linter.unusedVariables false

/-- A list of bytes. -/
def R8 (w : World) (v : Value) (l : List Int) : Prop :=
  ∃ (A : Option Addr) (n c : Nat), v = .slice A n c ∧ l.length = n ∧
    (0 < n → ∃ b o, A = some ⟨b, o, none⟩ ∧ b < w.heap.size ∧ ∀ i (h : i < l.length), w.cell? ⟨b, o + i, none⟩ = some (.int .u8 l[i]))
set_option maxRecDepth 100000 in
set_option maxHeartbeats 2000000 in
theorem lengthsB_any (w : World) (v : Value) (l : List Int) (h : R8 w v l) (hl : l.length ≤ 800) :
    Calls Try.prog 107 #[v] w fun e w' => ∃ u, e = .returned u ∧ Own w' w.heap.size u (flK l l.length) ∧ Below w.heap.size w w' := by
  obtain ⟨i0, hi, hz0, hz1, hz2⟩ := info_parts Try.infoInt
  obtain ⟨A, n, c, rfl, hn, r⟩ := h
  rw [hn] at hl ⊢
  have HN := Lib.hid hn
  have HR := Lib.hid r
  clear hn r
  go_enter Try.func107, Try.ntmps107
  go_wp2_with fail
  go_loopw [3, 7] (fun v i wr => ∃ k : Nat, k ≤ n ∧ i = .int .i64 k ∧ wr.ownsRow w.heap.size 2 1 v (flK l k).length (intVals (flK l k)) ∧ Below w.heap.size w wr) (fun _ i _ => n - (intOf i).toNat)
  case atStart => exact ⟨0, Nat.zero_le _, rfl, World.ownsRow_nil _ _ _ _, Below.refl _ _⟩
  case round =>
    obtain ⟨k, hk, rfl, hown, hb⟩ := hrel
    have hB := hb.size
    by_cases hlt : k < n
    · obtain ⟨b, o, rfl, hlt0, hc⟩ := HR.out (by omega)
      have hkl : k < l.length := by have := HN.out; omega
      have hcc : ∀ i (h : i < l.length), wr.cell? ⟨b, o + i, none⟩ = some (.int .u8 l[i]) := fun i h => (hb.cell (p := ⟨b, o + i, none⟩) hlt0).trans (hc i h)
      have hx1 := getD_at hkl
      have hle := flK_len l k
      clear hc
      by_cases hnew : k = 0 ∨ l.getD k 0 ≠ l.getD (k - 1) 0
      · have HR1 := Lib.hid (flK_new l k hnew)
        generalize hrk : flK l k = R at hown hle
        have HRK := Lib.hid hrk
        clear hrk
        have hHS : w.heap.size ≤ (wr.alloc (.cells #[.int .i64 0] 2)).heap.size := by simp; omega
        have hfin : ∀ (g cap : Nat) (w1 : World), w1.ownsRow w.heap.size 2 1 (.slice (some ⟨g, 0, none⟩) (R.length + 1) cap) (R.length + 1) (intVals R ++ [.int .i64 0]) → Below w.heap.size w w1 → (w1.setCell ⟨g, R.length, none⟩ (.int .i64 1)).ownsRow w.heap.size 2 1 (.slice (some ⟨g, 0, none⟩) (R.length + 1) cap) (flK l (k + 1)).length (intVals (flK l (k + 1))) := by
          intro g cap w1 h1 _
          have h2 := (h1.stored R.length (.int .i64 1)).1
          rw [set_new] at h2
          rw [HR1.out, HRK.out]
          simpa using h2
        have HFIN := Lib.hid hfin
        clear hfin
        rcases Nat.eq_zero_or_pos k with hk0 | hkp
        · subst hk0
          have h0 : ((0 : Int) == 0) = true := rfl
          clear hnew hx1 hcc
          go_wp2_with fail
          go_quiet (fail)
          go_wp2_with (at_builtin; refine wpList_append_lies _ rfl _ _ 22 rfl w.heap.size 2 i0 (.int .i64 0) 1 8 Try.underlying22 hi hz0 hz1 hz2 rfl (by decide) _ _ _ rfl (hown.alloc _) ⟨wr.heap.size, 0, none⟩ 1 1 [.int .i64 0] rfl rfl ?c1 ?c2 (by decide) ?c3 ?c4 ?c5 (wr.heap.size + 1) (by simp) ?_)
          case c1 => exact c1_int _ _ _
          case c2 => intro u hu; simp at hu; subst hu; rfl
          case c3 => unfold maxLen; omega
          case c4 => omega
          case c5 => exact hHS
          intro g cap w1 hown1 hgrow hat hlt1
          have hb1 := below_row (below_dn hb nq) hB (Nat.le_refl _) (own_drewN hown nq) hgrow
          have hst1 := HFIN.out g cap w1 hown1 hb1
          have hc := hown1.cellAt R.length (by omega)
          have hat2 : (intVals R ++ [Value.int .i64 0])[R.length]? = some (.int .i64 0) := by
            rw [List.getElem?_append_right (by rw [intVals_length]; omega), intVals_length, Nat.sub_self]; rfl
          rw [hat2] at hc
          have hfr := hown1.frozenAt R.length
          have hgB : w.heap.size ≤ g := by
            obtain ⟨g', cap', e', hb', -, -, -⟩ := own_some hown1 (by omega)
            injection e' with e' _ _
            injection e' with e'
            injection e' with e' _ _
            omega
          have HST := Lib.hid hst1
          have HBS := Lib.hid (hb1.setCell (p := ⟨g, R.length, none⟩) (by show _ ≤ g; omega) (.int .i64 1))
          have r1 : (0 : Int) ≤ (R.length : Int) := by omega
          have r2 : (R.length : Int) ≤ 1000 := by omega
          clear hown hown1 hgrow hat hlt1 hb hb1 hst1 hat2 hgB hB hHS HR
          go_wp2_with fail
          go_roundw
          case rel => exact ⟨_, by omega, by go_num, HST.out, HBS.out⟩
          case measure => simp [intOf]; omega
        · obtain ⟨j, rfl⟩ : ∃ j, k = j + 1 := ⟨k - 1, by omega⟩
          have hx2 := getD_at (l := l) (k := j) (by omega)
          have hne : (l[j + 1] != l[j]'(by omega)) = true := by
            apply bne_t
            rcases hnew with h | h
            · omega
            · rw [hx1, show j + 1 - 1 = j from rfl, hx2] at h; exact h
          have hd1 := hcc (j + 1) hkl
          have hd2 := hcc j (by omega)
          clear hnew hx1 hx2 hcc
          generalize l[j + 1] = x at *
          generalize l[j]'(by omega) = y at *
          have h0 : (((j : Int) + 1) == 0) = false := beq_f (by omega)
          have i1 : (0 : Int) ≤ (j : Int) := by omega
          have i2 : (j : Int) < (n : Int) := by omega
          have i3 : (j : Int) + 1 < (n : Int) := by omega
          go_wp2_with fail
          have w1 : IntKind.i64.wrap (j : Int) = (j : Int) := IntWalk.i64_in _ (by omega)
          have w2 : ((j : Int) + 1).toNat = j + 1 := by omega
          have w3 : (0 : Int) ≤ (j : Int) + 1 := by omega
          go_quiet (fail)
          clear w1
          go_wp2_with (at_builtin; refine wpList_append_lies _ rfl _ _ 22 rfl w.heap.size 2 i0 (.int .i64 0) 1 8 Try.underlying22 hi hz0 hz1 hz2 rfl (by decide) _ _ _ rfl (hown.alloc _) ⟨wr.heap.size, 0, none⟩ 1 1 [.int .i64 0] rfl rfl ?c1 ?c2 (by decide) ?c3 ?c4 ?c5 (wr.heap.size + 1) (by simp) ?_)
          case c1 => exact c1_int _ _ _
          case c2 => intro u hu; simp at hu; subst hu; rfl
          case c3 => unfold maxLen; omega
          case c4 => omega
          case c5 => exact hHS
          intro g cap w1 hown1 hgrow hat hlt1
          have hb1 := below_row (below_dn hb nq) hB (Nat.le_refl _) (own_drewN hown nq) hgrow
          have hst1 := HFIN.out g cap w1 hown1 hb1
          have hc := hown1.cellAt R.length (by omega)
          have hat2 : (intVals R ++ [Value.int .i64 0])[R.length]? = some (.int .i64 0) := by
            rw [List.getElem?_append_right (by rw [intVals_length]; omega), intVals_length, Nat.sub_self]; rfl
          rw [hat2] at hc
          have hfr := hown1.frozenAt R.length
          have hgB : w.heap.size ≤ g := by
            obtain ⟨g', cap', e', hb', -, -, -⟩ := own_some hown1 (by omega)
            injection e' with e' _ _
            injection e' with e'
            injection e' with e' _ _
            omega
          have HST := Lib.hid hst1
          have HBS := Lib.hid (hb1.setCell (p := ⟨g, R.length, none⟩) (by show _ ≤ g; omega) (.int .i64 1))
          have r1 : (0 : Int) ≤ (R.length : Int) := by omega
          have r2 : (R.length : Int) ≤ 1000 := by omega
          clear hown hown1 hgrow hat hlt1 hb hb1 hst1 hat2 hgB hB hHS HR hd1 hd2
          go_wp2_with fail
          go_roundw
          case rel => exact ⟨_, by omega, by go_num, HST.out, HBS.out⟩
          case measure => simp [intOf]; omega
      · have HR1 := Lib.hid (flK_old l k hnew)
        have hkp : 0 < k := by omega
        have hpos := flK_pos l k hkp
        have hbd := flK_bd l k ((flK l k).length - 1)
        generalize hrk : flK l k = R at hown hle hpos hbd
        have HRK := Lib.hid hrk
        clear hrk
        obtain ⟨m, hm⟩ : ∃ m, R.length = m + 1 := ⟨R.length - 1, by omega⟩
        have hatm : (intVals R)[m]? = some (.int .i64 (R.getD m 0)) := by
          rw [intVals_at R m (by omega), List.getD_eq_getElem?_getD, List.getElem?_eq_getElem (by omega)]; rfl
        rw [hm, show m + 1 - 1 = m from rfl] at hbd
        obtain ⟨x, hx⟩ : ∃ x, R.getD m 0 = x := ⟨_, rfl⟩
        have HX := Lib.hid hx
        rw [hx] at hbd hatm
        clear hx
        obtain ⟨q1, q2⟩ := hbd
        have q3 : x ≤ 1000 := by omega
        rw [hm] at hown hle hpos
        obtain ⟨g, cap, rfl, hg1, hg2, hg3, hg4⟩ := own_some hown (by omega)
        have hc := (hown.cellAt m (by omega)).trans hatm
        have hfr := hown.frozenAt m
        have hst := (hown.stored m (.int .i64 (x + 1))).1
        have hset : (wr.setCell ⟨g, m, none⟩ (.int .i64 (x + 1))).ownsRow w.heap.size 2 1 (.slice (some ⟨g, 0, none⟩) (m + 1) cap) (flK l (k + 1)).length (intVals (flK l (k + 1))) := by
          rw [HR1.out, HRK.out, hm, show m + 1 - 1 = m from rfl, HX.out, ← set_old, List.length_set, hm]
          exact hst
        have HSET := Lib.hid hset
        have HBS := Lib.hid (hb.setCell (p := ⟨g, m, none⟩) (by show _ ≤ g; omega) (.int .i64 (x + 1)))
        obtain ⟨j, rfl⟩ : ∃ j, k = j + 1 := ⟨k - 1, by omega⟩
        have hx2 := getD_at (l := l) (k := j) (by omega)
        have heq : l[j + 1] = l[j]'(by omega) := by
          by_cases h6 : l.getD (j + 1) 0 = l.getD (j + 1 - 1) 0
          · rw [hx1, show j + 1 - 1 = j from rfl, hx2] at h6; exact h6
          · exact absurd (Or.inr h6) hnew
        have hd1 := hcc (j + 1) hkl
        have hd2 := hcc j (by omega)
        rw [heq] at hd1
        clear hnew hx1 hx2 heq hcc
        generalize l[j]'(by omega) = y at *
        have hne : (y != y) = false := bne_f rfl
        have h0 : (((j : Int) + 1) == 0) = false := beq_f (by omega)
        have i1 : (0 : Int) ≤ (j : Int) := by omega
        have i2 : (j : Int) < (n : Int) := by omega
        have i3 : (j : Int) + 1 < (n : Int) := by omega
        have i4 : (0 : Int) ≤ (m : Int) := by omega
        have i5 : (m : Int) ≤ 1000 := by omega
        clear hst hset hatm hown hb hm hB
        go_wp2_with fail
        have w1 : IntKind.i64.wrap (j : Int) = (j : Int) := IntWalk.i64_in _ (by omega)
        have w2 : ((j : Int) + 1).toNat = j + 1 := by omega
        have w3 : (0 : Int) ≤ (j : Int) + 1 := by omega
        go_quiet (fail)
        clear w1
        go_wp2_with fail
        go_roundw
        case rel => exact ⟨j + 1 + 1, by omega, by go_num, HSET.out, below_dn HBS.out _⟩
        case measure => simp [intOf]; omega
    · obtain rfl : k = n := by omega
      go_wp2_with fail
      go_ret
      exact ⟨_, rfl, hown, hb⟩

end Go.Proofs.Ytjmaapbodacggaa
