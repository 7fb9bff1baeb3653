/- The program's JournalOf. -/
import Derived.Test.YtnpigefbdadjfaaDoorJns
import Derived.Test.YtnpigefbdadjfaaDoorDecI
import Derived.Test.YtnpigefbdadjfaaDoorBwb
import Derived.Lib.IndexAny
namespace Go.Proofs.YtnpigefbdadjfaaDoor
open Go Go.RowKit
set_option linter.unusedVariables false

theorem byteCells_app (a b : List UInt8) : Lib.byteCells (a ++ b) = Lib.byteCells a ++ Lib.byteCells b := by simp [Lib.byteCells]
theorem strCells_is (s : List UInt8) : Lib.strCells ⟨s.toArray⟩ = Lib.byteCells s := by simp [Lib.byteCells, Lib.strCells]
set_option maxRecDepth 100000 in
set_option maxHeartbeats 1000000 in
/-- A line of the journal: its check number, a blank, the line. -/
theorem entryOf_any (w : World) (m : Int) (s : ByteArray) (h0 : 0 ≤ m) (h1 : m ≤ 65002) (hs : s.size ≤ 4000000) (htab : Lib.TabIs Tryd.prog w "internal/strconv.uint64pow10" .u64 Lib.pow10Tab) :
    Calls Tryd.prog 87 #[.int .i64 m, .string s] w fun e w' => e = .returned (.string ⟨(Lib.itoa m ++ 32 :: s.data.toList).toArray⟩) ∧ Below w.heap.size w w' := by
  have HD := Lib.hid (decimal_impl m (by omega) (by omega) w htab)
  have hil := itoa_len1 m h0 h1
  clear htab
  obtain ⟨sl, hsl2⟩ : ∃ sl, sl = s.data.toList := ⟨_, rfl⟩
  have hse : s = ⟨sl.toArray⟩ := by rw [hsl2]
  have hsl : sl.length = s.size := by rw [hsl2]; rfl
  rw [← hsl2]
  obtain ⟨D, hDD⟩ : ∃ D, D = Lib.itoa m := ⟨_, rfl⟩
  rw [← hDD] at hil HD ⊢
  obtain ⟨T0, hT0⟩ : ∃ T : ByteArray, T = ⟨D.toArray⟩ := ⟨_, rfl⟩
  obtain ⟨T1, hT1⟩ : ∃ T : ByteArray, T = ⟨(D ++ [32]).toArray⟩ := ⟨_, rfl⟩
  obtain ⟨T2, hT2⟩ : ∃ T : ByteArray, T = ⟨(D ++ 32 :: sl).toArray⟩ := ⟨_, rfl⟩
  have r1 : ∀ W : World, (Op.stringOp .add T0 ⟨#[32]⟩).run Tryd.prog W = .ok (.string T1) W := fun W => by rw [hT0, hT1]; exact add_listsJ W D [32] (by simp; omega)
  have r2 : ∀ W : World, (Op.stringOp .add T1 s).run Tryd.prog W = .ok (.string T2) W := fun W => by
    rw [hT1, hT2, hse, show D ++ 32 :: sl = D ++ [32] ++ sl from by simp]; exact add_listsJ W _ sl (by simp; omega)
  rw [← hT0] at HD
  rw [← hT2]
  clear hT0 hT1 hT2 hDD hse hsl2 hil hsl
  go_enter Tryd.func87, Tryd.ntmps87
  go_wp2_with fail
  refine HD.out.mono ?_; rintro e w1 ⟨rfl, hb1⟩
  have HB := Lib.hid hb1
  clear hb1
  go_wp2_with fail
  go_ret
  exact ⟨rfl, HB.out⟩

set_option maxRecDepth 100000 in
set_option maxHeartbeats 4000000 in
theorem journal_impl (w : World) (v : Value) (fs : List ByteArray) (h : RdS w v fs) (hm : ∀ s ∈ fs, s.size ≤ 4000000) (hl : fs.length ≤ 4000000) (htab : Lib.TabIs Tryd.prog w "internal/strconv.uint64pow10" .u64 Lib.pow10Tab) :
    Calls Tryd.prog 37 #[v] w fun e w' => e = .returned (.tuple #[.string (jnB fs), .bool (jnOk (tl fs))]) ∧ Below w.heap.size w w' := by
  have HTAB := Lib.hid (Lib.tabBelow_of_tabIs htab)
  obtain ⟨A, n, c, rfl, hn, -, -, hr⟩ := h
  have HR := Lib.hid hr
  have HN := Lib.hid hn
  have HM := Lib.hid (fun k (hk : k < fs.length) => hm _ (List.getElem_mem hk))
  have HTK := Lib.hid (fun k (hk : k < fs.length) => tl_take fs k hk)
  have hn4 : n ≤ 4000000 := by omega
  clear hr hn hm htab
  obtain ⟨V, hV⟩ : ∃ V, V = jnB fs := ⟨_, rfl⟩
  obtain ⟨OK, hOK⟩ : ∃ OK, OK = jnOk (tl fs) := ⟨_, rfl⟩
  rw [← hV, ← hOK]
  have HNO : Hid (jnOk (tl fs) = false → OK = false ∧ V = ⟨#[]⟩) := by
    show _ → _
    intro h; rw [hV, hOK]; exact jn_ret h
  have HYES : Hid (jnOk (tl fs) = true → OK = true ∧ V = ⟨(jnl 0 (tl fs)).toArray⟩) := by
    show _ → _
    intro h; rw [hV, hOK]; exact jn_ret_ok h
  clear hV hOK
  have HB0 : Hid (Lib.IsBuilder 78 5 w.heap.size w.heap.size [] (w.alloc (.cells #[.pointer none, .slice none 0 0] 78))) := Lib.fresh_isBuilder _ _ _
  have HW0 : Hid (Below w.heap.size w (w.alloc (.cells #[.pointer none, .slice none 0 0] 78))) := (Below.refl _ _).alloc (Nat.le_refl _) _
  go_enter Tryd.func37, Tryd.ntmps37
  go_wp2_with fail
  go_loopw [5, 10] (fun x i wr => ∃ k : Nat, k ≤ n ∧ i = .int .i64 k ∧ x = .int .i64 (chs 0 ((tl fs).take k)) ∧ ((jnl 0 ((tl fs).take k)).length ≤ 4000 ∧ ∀ j (hj : j < fs.length), j < k → ∀ c ∈ fs[j].data.toList, c ≠ 10) ∧ Lib.IsBuilder 78 5 w.heap.size w.heap.size (Lib.byteCells (jnl 0 ((tl fs).take k))) wr ∧ Below w.heap.size w wr) (fun _ i _ => n - (intOf i).toNat)
  case atStart => exact ⟨0, Nat.zero_le _, rfl, rfl, ⟨Nat.zero_le _, fun j _ h => by omega⟩, HB0.out, HW0.out⟩
  case round =>
    obtain ⟨k, hk, rfl, rfl, ⟨htot, hall⟩, hbl, hb⟩ := hrel
    have HA := Lib.hid hall
    have HBL := Lib.hid hbl
    have HB := Lib.hid hb
    clear hall hbl hb HB0 HW0
    by_cases hlt : k < n
    · obtain ⟨b, o, rfl, hb0, hcA⟩ := HR.out (by omega)
      have hkl : k < fs.length := by have := HN.out; omega
      have hc := (HB.out.cell (p := ⟨b, o + k, none⟩) hb0).trans (hcA k hkl)
      clear hcA
      have htk := HTK.out k hkl
      have hsz := HM.out k hkl
      have hbd := chs_bd ((tl fs).take k) 0 (by decide) (by decide)
      have hj : jnl 0 ((tl fs).take (k + 1)) = jnl 0 ((tl fs).take k) ++ (ent (chs 0 ((tl fs).take k)) fs[k].data.toList ++ [10]) := by rw [htk, jnl_snoc]
      have hch : chs 0 ((tl fs).take (k + 1)) = chk (chs 0 ((tl fs).take k)) fs[k].data.toList := by rw [htk, chs_snoc]
      have hbig : 4000 < (jnl 0 ((tl fs).take (k + 1))).length → jnOk (tl fs) = false := by
        intro hb
        refine jn_long ?_
        have e : tl fs = (tl fs).take (k + 1) ++ (tl fs).drop (k + 1) := (List.take_append_drop _ _).symm
        rw [e, jnl_app, List.length_append]; omega
      have HBIG := Lib.hid hbig
      have HNL : Hid (10 ∈ fs[k].data.toList → jnOk (tl fs) = false) := by
        show _ → _
        intro h; exact jn_nl ⟨_, tl_mem hkl, h⟩
      have HNX : Hid ((∀ c ∈ fs[k].data.toList, c ≠ 10) → ∀ j (hj : j < fs.length), j < k + 1 → ∀ c ∈ fs[j].data.toList, c ≠ 10) := by
        show _ → _
        intro h j hj hjk
        rcases Nat.lt_or_ge j k with h1 | h1
        · exact HA.out j hj h1
        · obtain rfl : j = k := by omega
          exact h
      have HJ := Lib.hid hj
      have HC := Lib.hid hch
      clear htk hj hch hbig
      obtain ⟨s, hs⟩ : ∃ s, s = fs[k] := ⟨_, rfl⟩
      rw [← hs] at hc hsz HNL HNX HJ HC
      clear hs
      obtain ⟨J2, hJ2⟩ : ∃ J2, J2 = jnl 0 ((tl fs).take (k + 1)) := ⟨_, rfl⟩
      rw [← hJ2] at HBIG HJ
      have HJ2 := Lib.hid hJ2
      clear hJ2
      obtain ⟨J, hJe⟩ : ∃ J, J = jnl 0 ((tl fs).take k) := ⟨_, rfl⟩
      rw [← hJe] at htot HJ HBL
      obtain ⟨x, hx⟩ : ∃ x, x = chs 0 ((tl fs).take k) := ⟨_, rfl⟩
      rw [← hx] at hbd HJ HC ⊢
      clear hJe hx
      have hm := chk_bd x s.data.toList hbd.1 hbd.2
      have hel := ent_len hbd.1 hbd.2 s.data.toList
      have hsl : s.data.toList.length = s.size := rfl
      have HCK := Lib.hid (fun W => checkOf_yes_impl x s W hbd.1 hbd.2 (by unfold maxLen; omega))
      have HET := Lib.hid (fun W (ht : Lib.TabIs Tryd.prog W "internal/strconv.uint64pow10" .u64 Lib.pow10Tab) => entryOf_any W (chk x s.data.toList) s hm.1 hm.2 hsz ht)
      rw [show Lib.itoa (chk x s.data.toList) ++ 32 :: s.data.toList = ent x s.data.toList from rfl] at HET
      obtain ⟨m, hm0⟩ : ∃ m, m = chk x s.data.toList := ⟨_, rfl⟩
      rw [← hm0] at HCK HC HET
      obtain ⟨E, hE⟩ : ∃ E, E = ent x s.data.toList := ⟨_, rfl⟩
      rw [← hE] at hel HET HJ
      obtain ⟨TE, hTE⟩ : ∃ T : ByteArray, T = ⟨E.toArray⟩ := ⟨_, rfl⟩
      obtain ⟨TN, hTN⟩ : ∃ T : ByteArray, T = ⟨(E ++ [10]).toArray⟩ := ⟨_, rfl⟩
      rw [← hTE] at HET
      have r1 : ∀ W : World, (Op.stringOp .add TE ⟨#[10]⟩).run Tryd.prog W = .ok (.string TN) W := fun W => by rw [hTE, hTN]; exact add_listsJ W E [10] (by simp; omega)
      have hTNs : TN.size ≤ 4000100 := by rw [hTN]; show (E ++ [10]).toArray.size ≤ _; simp; omega
      have HCL : Hid (Lib.byteCells J ++ Lib.strCells TN = Lib.byteCells J2) := by
        show _ = _
        rw [HJ.out, hTN, strCells_is]
        simp only [byteCells_app]
      have HJL : Hid (J2.length ≤ 4004200) := by show _ ≤ _; rw [HJ.out]; simp; omega
      have i0 : (0 : Int) ≤ (k : Int) := by omega
      have i1 : (k : Int) < (n : Int) := by omega
      have wk : IntKind.i64.wrap ((k : Int) + 1) = (k : Int) + 1 := IntWalk.i64_in _ (by omega)
      have hcells : (Lib.byteCells J).length + TN.size ≤ 140737488355328 := by
        have : (Lib.byteCells J).length = J.length := by simp [Lib.byteCells]
        omega
      have HTI := Lib.hid (HTAB.out _ HB.out)
      clear hTE hTN hE hm0 hel hm hsl hbd hsz hkl hTNs HJ
      go_wp2_with fail
      refine (HCK.out _).mono ?_; rintro e w' ⟨rfl, rfl⟩
      go_wp2_with fail
      refine (HET.out _ HTI.out).mono ?_; rintro e w2 ⟨rfl, hb2⟩
      have HBL2 := Lib.hid (isBl_keep HBL.out hb2)
      have HB2 := Lib.hid (HB.out.trans (hb2.mono HB.out.size))
      clear hb2 HBL HB HTI hc
      go_wp2_with fail
      refine (bld_w _ _ _ _ _ HBL2.out hcells HB2.out.size).mono ?_; rintro e w3 ⟨rfl, hbl3, hb3, -⟩
      have HBL3 : Hid (Lib.IsBuilder 78 5 w.heap.size w.heap.size (Lib.byteCells J2) w3) := by
        show Lib.IsBuilder _ _ _ _ _ _
        rw [← HCL.out]; exact hbl3
      have HB3 := Lib.hid (HB2.out.trans hb3)
      clear hbl3 hb3 HBL2 HB2 hcells
      go_wp2_with fail
      have HCO := Lib.hid (fun W => Go.Proofs.Tryd.strings_Contains_one s 10 W)
      rw [← Lib.contains_iff_indexByte] at HCO
      have hjl := HJL.out
      have hbl : (Lib.byteCells J2).length = J2.length := by simp [Lib.byteCells]
      have HLN := Lib.hid (bld_len _ _ _ _ HBL3.out (by omega))
      rw [hbl] at HLN
      cases hct : s.data.toList.contains 10
      · have hall2 : ∀ c ∈ s.data.toList, c ≠ 10 := by
          intro c hc e
          rw [e] at hc
          have := List.contains_iff_mem.2 hc
          rw [hct] at this; cases this
        rw [hct] at HCO
        have HFIN := Lib.hid (HNX.out hall2)
        clear hall2 hct hbl
        by_cases hb4 : 4000 < J2.length
        · obtain ⟨e1, e2⟩ := HNO.out (HBIG.out hb4)
          have hbI : (4000 : Int) < (J2.length : Int) := by omega
          subst e1; subst e2
          refine (HCO.out _).mono ?_; rintro e w' ⟨rfl, rfl⟩
          go_wp2_with fail
          refine (HLN.out).mono ?_; rintro e w' ⟨rfl, rfl⟩
          go_wp2_with fail
          go_ret2
          exact ⟨rfl, HB3.out⟩
        · have hbI : ¬ (4000 : Int) < (J2.length : Int) := by omega
          refine (HCO.out _).mono ?_; rintro e w' ⟨rfl, rfl⟩
          go_wp2_with fail
          refine (HLN.out).mono ?_; rintro e w' ⟨rfl, rfl⟩
          go_wp2_with fail
          go_roundw
          case rel => exact ⟨k + 1, by omega, by go_num, by rw [HC.out], ⟨by rw [← HJ2.out]; omega, HFIN.out⟩, by rw [← HJ2.out]; exact HBL3.out, HB3.out⟩
          case measure => simp [intOf]; omega
      · obtain ⟨e1, e2⟩ := HNO.out (HNL.out (List.contains_iff_mem.1 hct))
        rw [hct] at HCO
        clear hct hbl
        subst e1; subst e2
        refine (HCO.out _).mono ?_; rintro e w' ⟨rfl, rfl⟩
        go_wp2_with fail
        go_ret2
        exact ⟨rfl, HB3.out⟩
    · obtain rfl : n = k := by omega
      have htf : (tl fs).take n = tl fs := List.take_of_length_le (by rw [tl_len]; have := HN.out; omega)
      have hall := tl_all (fun j hj => HA.out j hj (by have := HN.out; omega))
      rw [htf] at htot HBL
      obtain ⟨e1, e2⟩ := HYES.out (jn_ok hall htot)
      subst e1; subst e2
      clear htf htot hall
      go_wp2_with fail
      refine (Go.Proofs.Tryd.Builder_String_any _ _ _ _ HBL.out HB.out.size).mono ?_; rintro e w6 ⟨rfl, hb6⟩
      have HB6 := Lib.hid (HB.out.trans hb6)
      clear hb6
      go_wp2_with fail
      go_ret2
      exact ⟨rfl, HB6.out⟩
end Go.Proofs.YtnpigefbdadjfaaDoor
