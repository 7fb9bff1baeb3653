/- Contracts of l01Runs and of both RunLengths. -/
import Derived.Test.YtmhdjimdhcephabInts
import Derived.Test.YtmhdjimdhcephabBits
namespace Go.Proofs.Ytmhdjimdhcephab
open Go Go.RowKit
set_option linter.unusedVariables false

/-- The lengths of the runs among the first k bytes. -/
def runsK (l : List UInt8) : Nat → List Int
  | 0 => []
  | k + 1 => if k = 0 ∨ l[k]? ≠ l[k - 1]? then runsK l k ++ [1] else (runsK l k).set ((runsK l k).length - 1) ((runsK l k).getD ((runsK l k).length - 1) 0 + 1)
theorem runsK_pos (l : List UInt8) (k : Nat) (h : 0 < k) : 0 < (runsK l k).length := by
  induction k with
  | zero => omega
  | succ k ih =>
    unfold runsK
    split
    · simp
    · rename_i hn
      rw [List.length_set]
      exact ih (by omega)
theorem runsK_le (l : List UInt8) (k : Nat) : (runsK l k).length ≤ k := by
  induction k with
  | zero => simp [runsK]
  | succ k ih =>
    unfold runsK
    split
    · simp; omega
    · rw [List.length_set]; omega
theorem runsK_bd (l : List UInt8) (k : Nat) : ∀ j, 0 ≤ (runsK l k).getD j 0 ∧ (runsK l k).getD j 0 ≤ k := by
  induction k with
  | zero => intro j; simp [runsK]
  | succ k ih =>
    intro j
    unfold runsK
    split
    · have := ih j
      rw [List.getD_eq_getElem?_getD] at this ⊢
      rw [List.getElem?_append]
      split
      · omega
      · by_cases h : j - (runsK l k).length = 0
        · rw [h]; simp; omega
        · rw [List.getElem?_eq_none (by simp; omega)]; simp; omega
    · have h1 := ih j
      have h2 := ih ((runsK l k).length - 1)
      simp only [List.getD_eq_getElem?_getD] at *
      rw [List.getElem?_set]
      split
      · split
        · simp only [Option.getD_some]; omega
        · simp; omega
      · omega
theorem runsK_new (l : List UInt8) (k : Nat) (h : k = 0 ∨ l[k]? ≠ l[k - 1]?) : runsK l (k + 1) = runsK l k ++ [1] := by
  rw [runsK, if_pos h]
theorem runsK_old (l : List UInt8) (k : Nat) (h : ¬ (k = 0 ∨ l[k]? ≠ l[k - 1]?)) : runsK l (k + 1) = (runsK l k).set ((runsK l k).length - 1) ((runsK l k).getD ((runsK l k).length - 1) 0 + 1) := by
  rw [runsK, if_neg h]
/-- The store of 1 behind an append of 0. -/
theorem set_new (xs : List Int) : (intVals xs ++ [Value.int .i64 0]).set xs.length (.int .i64 1) = intVals (xs ++ [1]) := by
  rw [List.set_append, if_neg (by rw [intVals_length]; omega), intVals_length, Nat.sub_self, ← intVals_snoc]; rfl
theorem set_old (xs : List Int) (j : Nat) (x : Int) : (intVals xs).set j (.int .i64 x) = intVals (xs.set j x) := by
  simp [intVals, List.map_set]
theorem below_cons {B n : Nat} {w wr w1 : World} {e : TypeId} {v : Value} {xs : List Value} {o : Obj} (hb : Below B w wr) (hB : B ≤ wr.heap.size) (hown : wr.ownsRow B e 1 v n xs) (hg : (wr.alloc o).grownBy w1 v.ownBlock) : Below B w w1 :=
  (hb.alloc hB o).grown hg (by simp; omega) (fun k hk => (hown.lt k hk).1)

theorem c1_int (wr : World) (x : Value) (t : TypeId) : ∀ (j : Nat) (u : Value), [x][j]? = some u → (wr.alloc (.cells #[x] t)).cell? ((⟨wr.heap.size, 0, none⟩ : Addr).add j) = some u := by
  intro j u hj
  match j, hj with
  | 0, hj =>
    simp at hj; subst hj
    rw [show ((⟨wr.heap.size, 0, none⟩ : Addr).add 0) = ⟨wr.heap.size, 0, none⟩ from by simp [Addr.add]]
    rw [World.cell?_alloc_at _ _ _ _ rfl]; rfl
theorem below_row {B base n : Nat} {w wr w1 : World} {e : TypeId} {v : Value} {xs : List Value} {o : Obj} (hb : Below B w wr) (hB : base ≤ wr.heap.size) (hB2 : B ≤ base) (hown : wr.ownsRow base e 1 v n xs) (hg : (wr.alloc o).grownBy w1 v.ownBlock) : Below B w w1 :=
  (hb.alloc (by omega) o).grown hg (by simp; omega) (fun k hk => by have := (hown.lt k hk).1; omega)
theorem below_dn {B : Nat} {a w : World} (h : Below B a w) (n : Nat) : Below B a (w.drewN n) := below_drewN h n

set_option maxRecDepth 100000 in
theorem l01Runs_any (s : ByteArray) (w : World) (hs : s.size ≤ 400) :
    Calls Try.prog 80 #[.string s] w fun e w' => ∃ v, e = .returned v ∧ Own w' w.heap.size v (runsK s.data.toList s.size) ∧ Below w.heap.size w w' := by
  obtain ⟨i0, hi, hz0, hz1, hz2⟩ := info_parts Try.infoInt
  go_enter Try.func80, Try.ntmps80
  go_wp2
  go_loopw [3, 4] (fun v i wr => ∃ k : Nat, k ≤ s.size ∧ i = .int .i64 k ∧ wr.ownsRow w.heap.size 2 1 v (runsK s.data.toList k).length (intVals (runsK s.data.toList k)) ∧ Below w.heap.size w wr ∧ w.heap.size ≤ wr.heap.size) (fun _ i _ => s.size - (intOf i).toNat)
  case atStart => exact ⟨0, Nat.zero_le _, rfl, World.ownsRow_made w #[] 0 (Nat.le_refl _) (by decide) rfl, (Below.refl _ _).alloc (Nat.le_refl _) _, by simp⟩
  case round =>
    obtain ⟨k, hk, rfl, hown, hb, hB⟩ := hrel
    by_cases hlt : k < s.size
    · have hx1 : s.data.toList[k]? = some s[k] := by rw [List.getElem?_eq_getElem (by simpa using hlt)]; rfl
      have hle := runsK_le s.data.toList k
      by_cases hnew : k = 0 ∨ s.data.toList[k]? ≠ s.data.toList[k - 1]?
      · have HR := Lib.hid (runsK_new s.data.toList k hnew)
        generalize hrk : runsK s.data.toList k = R at hown hle
        have HRK := Lib.hid hrk
        clear hrk
        have hHS : w.heap.size ≤ (wr.alloc (.cells #[.int .i64 0] 2)).heap.size := by simp; omega
        have hfin : ∀ (g cap : Nat) (w1 : World), w1.ownsRow w.heap.size 2 1 (.slice (some ⟨g, 0, none⟩) (R.length + 1) cap) (R.length + 1) (intVals R ++ [.int .i64 0]) → Below w.heap.size w w1 → (w1.setCell ⟨g, R.length, none⟩ (.int .i64 1)).ownsRow w.heap.size 2 1 (.slice (some ⟨g, 0, none⟩) (R.length + 1) cap) (runsK s.data.toList (k + 1)).length (intVals (runsK s.data.toList (k + 1))) := by
          intro g cap w1 h1 _
          have h2 := (h1.stored R.length (.int .i64 1)).1
          rw [set_new] at h2
          rw [HR.out, HRK.out]
          simpa using h2
        rcases Nat.eq_zero_or_pos k with hk0 | hkp
        · subst hk0
          have h0 : ((0 : Int) == 0) = true := rfl
          clear hnew hx1
          have HFIN := Lib.hid hfin
          clear hfin
          go_wp2_with fail
          go_quiet (fail)
          go_wp2_with (at_builtin; refine wpList_append_lies _ rfl _ _ 39 rfl w.heap.size 2 i0 (.int .i64 0) 1 8 Try.underlying39 hi hz0 hz1 hz2 rfl (by decide) _ _ _ rfl (hown.alloc _) ⟨wr.heap.size, 0, none⟩ 1 1 [.int .i64 0] rfl rfl ?c1 ?c2 (by decide) ?c3 ?c4 ?c5 (wr.heap.size + 1) (by simp) ?_)
          case c1 => exact c1_int _ _ _
          case c2 => intro u hu; simp at hu; subst hu; rfl
          case c3 => unfold maxLen; omega
          case c4 => omega
          case c5 => exact hHS
          intro g cap w1 hown1 hgrow hat hlt1
          have hb1 := below_row (below_dn hb nq) hB (Nat.le_refl _) (own_drewN hown nq) hgrow
          have hsz1 : w.heap.size ≤ w1.heap.size := by have := hgrow.size; simp at this; omega
          have hst1 := HFIN.out g cap w1 hown1 hb1
          have hc := hown1.cellAt R.length (by omega)
          have hat2 : (intVals R ++ [Value.int .i64 0])[R.length]? = some (.int .i64 0) := by
            rw [List.getElem?_append_right (by rw [intVals_length]; omega), intVals_length, Nat.sub_self]; rfl
          rw [hat2] at hc
          have hfr := hown1.frozenAt R.length
          have hgB : w.heap.size ≤ g := by
            obtain ⟨g', cap', e', hb', -, -, -⟩ := own_some hown1 (by omega)
            injection e' with e' _ _
            injection e' with e'
            injection e' with e' _ _
            omega
          have HST := Lib.hid hst1
          have HBS := Lib.hid (hb1.setCell (p := ⟨g, R.length, none⟩) (by show _ ≤ g; omega) (.int .i64 1))
          have HBZ := Lib.hid hsz1
          have r1 : (0 : Int) ≤ (R.length : Int) := by omega
          have r2 : (R.length : Int) ≤ 1000 := by omega
          clear hown hown1 hgrow hat hlt1 hb hb1 hst1 hat2 hgB hsz1 hB hHS
          go_wp2_with fail
          go_roundw
          case rel => exact ⟨_, by omega, by go_num, HST.out, HBS.out, by simpa [World.setCell] using HBZ.out⟩
          case measure => simp [intOf]; omega
        · obtain ⟨j, rfl⟩ : ∃ j, k = j + 1 := ⟨k - 1, by omega⟩
          have hx2 : s.data.toList[j]? = some (s[j]'(by omega)) := by rw [List.getElem?_eq_getElem (by simp; omega)]; rfl
          have hne : ((s[j + 1].toNat : Int) != ((s[j]'(by omega)).toNat : Int)) = true := by
            apply bne_t
            intro e
            have e2 : s[j + 1] = s[j]'(by omega) := UInt8.toNat_inj.1 (by omega)
            rcases hnew with h | h
            · omega
            · apply h
              rw [hx1, show j + 1 - 1 = j from rfl, hx2, e2]
          have h0 : (((j : Int) + 1) == 0) = false := beq_f (by omega)
          have i1 : (0 : Int) ≤ (j : Int) := by omega
          have i2 : (j : Int) < (s.size : Int) := by omega
          have i3 : (j : Int) + 1 < (s.size : Int) := by omega
          clear hnew hx1 hx2
          have HFIN := Lib.hid hfin
          clear hfin
          go_wp2_with fail
          have w1 : IntKind.i64.wrap (j : Int) = (j : Int) := IntWalk.i64_in _ (by omega)
          have w2 : ((j : Int) + 1).toNat = j + 1 := by omega
          have w3 : (0 : Int) ≤ (j : Int) + 1 := by omega
          go_quiet (fail)
          clear w1
          go_wp2_with (at_builtin; refine wpList_append_lies _ rfl _ _ 39 rfl w.heap.size 2 i0 (.int .i64 0) 1 8 Try.underlying39 hi hz0 hz1 hz2 rfl (by decide) _ _ _ rfl (hown.alloc _) ⟨wr.heap.size, 0, none⟩ 1 1 [.int .i64 0] rfl rfl ?c1 ?c2 (by decide) ?c3 ?c4 ?c5 (wr.heap.size + 1) (by simp) ?_)
          case c1 => exact c1_int _ _ _
          case c2 => intro u hu; simp at hu; subst hu; rfl
          case c3 => unfold maxLen; omega
          case c4 => omega
          case c5 => exact hHS
          intro g cap w1 hown1 hgrow hat hlt1
          have hb1 := below_row (below_dn hb nq) hB (Nat.le_refl _) (own_drewN hown nq) hgrow
          have hsz1 : w.heap.size ≤ w1.heap.size := by have := hgrow.size; simp at this; omega
          have hst1 := HFIN.out g cap w1 hown1 hb1
          have hc := hown1.cellAt R.length (by omega)
          have hat2 : (intVals R ++ [Value.int .i64 0])[R.length]? = some (.int .i64 0) := by
            rw [List.getElem?_append_right (by rw [intVals_length]; omega), intVals_length, Nat.sub_self]; rfl
          rw [hat2] at hc
          have hfr := hown1.frozenAt R.length
          have hgB : w.heap.size ≤ g := by
            obtain ⟨g', cap', e', hb', -, -, -⟩ := own_some hown1 (by omega)
            injection e' with e' _ _
            injection e' with e'
            injection e' with e' _ _
            omega
          have HST := Lib.hid hst1
          have HBS := Lib.hid (hb1.setCell (p := ⟨g, R.length, none⟩) (by show _ ≤ g; omega) (.int .i64 1))
          have HBZ := Lib.hid hsz1
          have r1 : (0 : Int) ≤ (R.length : Int) := by omega
          have r2 : (R.length : Int) ≤ 1000 := by omega
          clear hown hown1 hgrow hat hlt1 hb hb1 hst1 hat2 hgB hsz1 hB hHS
          go_wp2_with fail
          go_roundw
          case rel => exact ⟨_, by omega, by go_num, HST.out, HBS.out, by simpa [World.setCell] using HBZ.out⟩
          case measure => simp [intOf]; omega
      · have HR := Lib.hid (runsK_old s.data.toList k hnew)
        have hkp : 0 < k := by omega
        have hpos := runsK_pos s.data.toList k hkp
        have hbd := runsK_bd s.data.toList k ((runsK s.data.toList k).length - 1)
        generalize hrk : runsK s.data.toList k = R at hown hle hpos hbd
        have HRK := Lib.hid hrk
        clear hrk
        obtain ⟨m, hm⟩ : ∃ m, R.length = m + 1 := ⟨R.length - 1, by omega⟩
        have hatm : (intVals R)[m]? = some (.int .i64 (R.getD m 0)) := by
          rw [intVals_at R m (by omega), List.getD_eq_getElem?_getD, List.getElem?_eq_getElem (by omega)]; rfl
        rw [hm, show m + 1 - 1 = m from rfl] at hbd
        obtain ⟨x, hx⟩ : ∃ x, R.getD m 0 = x := ⟨_, rfl⟩
        have HX := Lib.hid hx
        rw [hx] at hbd hatm
        clear hx
        obtain ⟨q1, q2⟩ := hbd
        have q3 : x ≤ 1000 := by omega
        rw [hm] at hown hle hpos
        obtain ⟨g, cap, rfl, hg1, hg2, hg3, hg4⟩ := own_some hown (by omega)
        have hc := (hown.cellAt m (by omega)).trans hatm
        have hfr := hown.frozenAt m
        have hst := (hown.stored m (.int .i64 (x + 1))).1
        have hset : (wr.setCell ⟨g, m, none⟩ (.int .i64 (x + 1))).ownsRow w.heap.size 2 1 (.slice (some ⟨g, 0, none⟩) (m + 1) cap) (runsK s.data.toList (k + 1)).length (intVals (runsK s.data.toList (k + 1))) := by
          rw [HR.out, HRK.out, hm, show m + 1 - 1 = m from rfl, HX.out, ← set_old, List.length_set, hm]
          exact hst
        have HSET := Lib.hid hset
        have HBS := Lib.hid (hb.setCell (p := ⟨g, m, none⟩) (by show _ ≤ g; omega) (.int .i64 (x + 1)))
        have HBB := Lib.hid hB
        obtain ⟨j, rfl⟩ : ∃ j, k = j + 1 := ⟨k - 1, by omega⟩
        have hx2 : s.data.toList[j]? = some (s[j]'(by omega)) := by rw [List.getElem?_eq_getElem (by simp; omega)]; rfl
        have heq : s[j + 1] = s[j]'(by omega) := by
          have h5 : s.data.toList[j + 1]? = s.data.toList[j + 1 - 1]? := by
            by_cases h6 : s.data.toList[j + 1]? = s.data.toList[j + 1 - 1]?
            · exact h6
            · exact absurd (Or.inr h6) hnew
          rw [hx1, show j + 1 - 1 = j from rfl, hx2] at h5
          exact Option.some.inj h5
        have hne : ((s[j + 1].toNat : Int) != ((s[j]'(by omega)).toNat : Int)) = false := bne_f (by rw [heq])
        have h0 : (((j : Int) + 1) == 0) = false := beq_f (by omega)
        have i1 : (0 : Int) ≤ (j : Int) := by omega
        have i2 : (j : Int) < (s.size : Int) := by omega
        have i3 : (j : Int) + 1 < (s.size : Int) := by omega
        have i4 : (0 : Int) ≤ (m : Int) := by omega
        have i5 : (m : Int) ≤ 1000 := by omega
        clear hnew hx1 hx2 heq hst hset hatm hown hb hm hB
        go_wp2_with fail
        have w1 : IntKind.i64.wrap (j : Int) = (j : Int) := IntWalk.i64_in _ (by omega)
        have w2 : ((j : Int) + 1).toNat = j + 1 := by omega
        have w3 : (0 : Int) ≤ (j : Int) + 1 := by omega
        go_quiet (fail)
        clear w1
        go_wp2_with fail
        go_roundw
        case rel => exact ⟨j + 1 + 1, by omega, by go_num, HSET.out, below_dn HBS.out _, by simpa [World.setCell] using HBB.out⟩
        case measure => simp [intOf]; omega
    · obtain rfl : k = s.size := by omega
      go_wp2_with fail
      go_ret
      exact ⟨_, rfl, hown, hb⟩
end Go.Proofs.Ytmhdjimdhcephab
