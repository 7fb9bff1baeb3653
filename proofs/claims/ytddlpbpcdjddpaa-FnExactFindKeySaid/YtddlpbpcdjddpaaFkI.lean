/- The program's FindKey. -/
import Derived.Test.YtddlpbpcdjddpaaFkD
import Derived.Test.YtddlpbpcdjddpaaTnd
import Derived.Test.YtddlpbpcdjddpaaKyi
import Derived.Test.YtddlpbpcdjddpaaXorI
namespace Go.Proofs.Ytddlpbpcdjddpaa
open Go Go.RowKit
set_option linter.unusedVariables false
theorem fkV_no {l : List Int} {a b : List UInt8} (h : fkOk l a b = false) : fkV l a b = ⟨#[]⟩ := by unfold fkV; rw [h]; rfl
theorem fkV_yes {l : List Int} {a b : List UInt8} (h : fkOk l a b = true) : fkV l a b = ⟨(tx (fkS l a b)).toArray⟩ := by unfold fkV; rw [h]; rfl
theorem ba_list (l : List UInt8) : (⟨l.toArray⟩ : ByteArray).data.toList = l := rfl
theorem ba_size (l : List UInt8) : (⟨l.toArray⟩ : ByteArray).size = l.length := rfl

theorem str_neF {a b : ByteArray} (h : a ≠ b) : (a.toList == b.toList) = false := by
  rw [← beq_toListBytes]
  cases e : (a == b)
  · rfl
  · refine absurd ?_ h
    cases a with | mk a => cases b with | mk b =>
    have h2 : (a == b) = true := e
    exact congrArg ByteArray.mk (eq_of_beq h2)


set_option maxRecDepth 100000 in
set_option maxHeartbeats 1000000 in
theorem findKey_impl (w : World) (v : Value) (l : List Int) (a b : ByteArray) (hb : ∀ n ∈ l, -9223372036854775808 ≤ n ∧ n ≤ 9223372036854775807) (ha : a.size ≤ maxLen) (hb2 : b.size ≤ maxLen) (h : Rd w v l) :
    Calls Try.prog 23 #[v, .string a, .string b] w fun e w' =>
      e = .returned (.tuple #[.string (fkV l a.data.toList b.data.toList), .bool (fkOk l a.data.toList b.data.toList)]) ∧ Below w.heap.size w w' := by
  have hE : fkOk l a.data.toList b.data.toList = (fkIn l a.data.toList b.data.toList && decide (fkG l a.data.toList b.data.toList = fkK a.data.toList b.data.toList)) := rfl
  have hI : fkIn l a.data.toList b.data.toList = (tpOk l && (xorOk a.data.toList b.data.toList && decide (wid l ≤ (a.data.toList.length : Int)))) := rfl
  have hsz : a.data.toList.length = a.size := by simp
  have hsb : b.data.toList.length = b.size := by simp
  by_cases hx : isB a.data.toList = true ∧ isB b.data.toList = true ∧ a.size = b.size
  · obtain ⟨x1, x2, x3⟩ := hx
    have hxo : xorOk a.data.toList b.data.toList = true := by
      unfold xorOk
      rw [x1, x2, decide_eq_true (show a.data.toList.length = b.data.toList.length by omega)]; rfl
    have HX := Lib.hid (xor_yes_impl a b w x1 x2 x3)
    have HAT := Lib.hid (fun W h => areTaps_any W v l hb h)
    have HRD := Lib.hid h
    have hKe : xorB a.data.toList b.data.toList a.size = fkK a.data.toList b.data.toList := by unfold fkK; rw [hsz]
    rw [hKe] at HX
    have hn4 : a.size ≤ 400 := by have := (isB_r x1).1; omega
    have hKl : (fkK a.data.toList b.data.toList).length = a.size := by unfold fkK; rw [xorB_length, hsz]
    rw [hxo, Bool.true_and, hsz] at hI
    obtain ⟨A, c, rfl⟩ := rd_shp h
    obtain ⟨n1, hn1⟩ : ∃ n1, n1 = l.length := ⟨_, rfl⟩
    rw [← hn1] at HRD HAT ⊢
    cases ht : tpOk l
    · rw [ht, Bool.false_and] at hI
      rw [hI, Bool.false_and] at hE
      rw [fkV_no hE, hE]
      rw [ht] at HAT
      have hZs : (⟨(fkK a.data.toList b.data.toList).toArray⟩ : ByteArray).size = a.size := hKl
      generalize (⟨(fkK a.data.toList b.data.toList).toArray⟩ : ByteArray) = Z at *
      clear h hE hI hsz hsb x1 x2 x3 hxo hKe hKl hb hn1
      go_enter Try.func23, Try.ntmps23
      go_wp2_with fail
      refine HX.out.mono ?_; rintro e w1 ⟨rfl, hb1⟩
      have HB1 := Lib.hid hb1
      have HR1 := Lib.hid (HRD.out.keep hb1)
      clear hb1
      go_wp2_with fail
      refine (HAT.out _ HR1.out).mono ?_; rintro e w2 ⟨rfl, q, rfl⟩
      go_wp2_with fail
      go_ret2
      exact ⟨rfl, below_drewN HB1.out q⟩
    · rw [ht, Bool.true_and] at hI
      rw [ht] at HAT
      have h0 := (tpOk_parts ht).1
      have HWD := Lib.hid (fun W h => widthOf_any W (.slice A n1 c) l h0 h)
      have HTN := Lib.hid (fun W h => turned_any W (.slice A n1 c) l ht h)
      have hw := tpOk_wid ht
      by_cases hle : wid l ≤ (a.size : Int)
      · rw [decide_eq_true hle] at hI
        rw [hI, Bool.true_and] at hE
        obtain ⟨m1, m2, m3, m4, m5, m6, m7, m8, m9, m10, m11, m12⟩ := fk_facts hI
        obtain ⟨f1, f2⟩ := fk_first hI
        have htn := trn_ok ht
        have hbn : ∀ n ∈ trn l, -9223372036854775808 ≤ n ∧ n ≤ 9223372036854775807 := fun n hn => by
          obtain ⟨k, hk, rfl⟩ := List.getElem_of_mem hn
          have := tpR_at (tpOk_parts htn.1).2.2 k hk
          omega
        obtain ⟨Z, hZ⟩ : ∃ Z : ByteArray, Z = ⟨(fkK a.data.toList b.data.toList).toArray⟩ := ⟨_, rfl⟩
        obtain ⟨Y, hY⟩ : ∃ Y : ByteArray, Y = ⟨(tx (fkS l a.data.toList b.data.toList)).toArray⟩ := ⟨_, rfl⟩
        obtain ⟨X, hX⟩ : ∃ X : ByteArray, X = ⟨(fkG l a.data.toList b.data.toList).toArray⟩ := ⟨_, rfl⟩
        have hZs : Z.size = a.size := by rw [hZ]; exact hKl
        have hZl : Z.data.toList = fkK a.data.toList b.data.toList := by rw [hZ]
        have hex : (Z.extract 0 (fkW l)).data.toList = (fkK a.data.toList b.data.toList).take (fkW l) := by
          rw [← hZl, ByteArray.data_extract, Array.toList_extract]
          simp
        have HK1 : Hid (∀ W' v', Rd W' v' (trn l) → Calls Try.prog 33 #[.agg #[v', .string (Z.extract 0 (fkW l))], .int .i64 (fkW l : Nat)] W' fun e w' => e = .returned (.tuple #[.string Y, .bool true]) ∧ Below W'.heap.size W' w') := by
          show ∀ _ _, _
          intro W' v' hr
          have := keyBits_impl W' v' (trn l) (Z.extract 0 (fkW l)) (wid l) hbn (by rw [ByteArray.size_extract]; unfold maxLen; omega) hr
          rw [hex, f1, kyV_yes f1, f2, ← hY, ← m8] at this
          exact this
        have HK2 : Hid (∀ W', Rd W' (.slice A n1 c) l → Calls Try.prog 33 #[.agg #[.slice A n1 c, .string Y], .int .i64 (a.size : Nat)] W' fun e w' => e = .returned (.tuple #[.string X, .bool true]) ∧ Below W'.heap.size W' w') := by
          show ∀ _, _
          intro W' hr
          have hYl : Y.data.toList = tx (fkS l a.data.toList b.data.toList) := by rw [hY]
          have hky : kyOk l (tx (fkS l a.data.toList b.data.toList)) (a.size : Nat) = true := by
            unfold kyOk
            rw [m5, decide_eq_true (show (0 : Int) ≤ (a.size : Int) ∧ (a.size : Int) ≤ 400 by omega)]; rfl
          have := keyBits_impl W' (.slice A n1 c) l Y (a.size : Nat) hb (by rw [hY, ba_size, tx_len, m3]; unfold maxLen; omega) hr
          rw [hYl, hky, kyV_yes hky] at this
          have e : kyL l (tx (fkS l a.data.toList b.data.toList)) (a.size : Nat) = fkG l a.data.toList b.data.toList := by
            unfold kyL fkG
            rw [Int.toNat_natCast, hsz]
          rw [e, ← hX] at this
          exact this
        rw [← hZ] at HX
        by_cases hfk : fkG l a.data.toList b.data.toList = fkK a.data.toList b.data.toList
        · rw [decide_eq_true hfk] at hE
          rw [fkV_yes hE, hE, ← hY]
          obtain rfl : X = Z := by rw [hX, hZ, hfk]
          rw [← m8] at HWD hle hw
          generalize fkW l = W at *
          clear h hE hI hsz hsb x1 x2 x3 hxo hKe hKl hb hn1 ht h0 m1 m2 m3 m4 m5 m6 m7 m8 m12 f1 f2 htn hbn hZ hY hX hZl hex hfk
          go_enter Try.func23, Try.ntmps23
          go_wp2_with fail
          refine HX.out.mono ?_; rintro e w1 ⟨rfl, hb1⟩
          have HB1 := Lib.hid hb1
          have HR1 := Lib.hid (HRD.out.keep hb1)
          clear hb1
          go_wp2_with fail
          refine (HAT.out _ HR1.out).mono ?_; rintro e w2 ⟨rfl, q, rfl⟩
          have HB2 := Lib.hid (below_drewN HB1.out q)
          have HR2 := Lib.hid (HR1.out.drewN q)
          generalize w1.drewN q = w2 at *
          go_wp2_with fail
          refine (HWD.out _ HR2.out).mono ?_; rintro e w3 ⟨rfl, q3, rfl⟩
          have HB3 := Lib.hid (below_drewN HB2.out q3)
          have HR3 := Lib.hid (HR2.out.drewN q3)
          generalize w2.drewN q3 = w3 at *
          go_wp2_with fail
          refine (HWD.out _ HR3.out).mono ?_; rintro e w4 ⟨rfl, q4, rfl⟩
          have HB4 := Lib.hid (below_drewN HB3.out q4)
          have HR4 := Lib.hid (HR3.out.drewN q4)
          generalize w3.drewN q4 = w4 at *
          go_wp2_with fail
          have HR5 : Hid (Rd w4.drew (.slice A n1 c) l) := HR4.out.keep (Below.refl w4.heap.size w4).drew
          have HB5 : Hid (Below w.heap.size w w4.drew) := HB4.out.drew
          have hS5 : w.heap.size ≤ w4.drew.heap.size := HB5.out.size
          have hs1 : (0 : Int) ≤ (W : Int) := by omega
          have hs2 : (W : Int) ≤ (X.size : Int) := by omega
          have hs3 : (W : Int).toNat = W := by omega
          go_region_with (first
            | (go_at_call 58; refine (HTN.out _ HR5.out).mono ?_; rintro e w5 ⟨v5, rfl, hr5, hb5⟩; obtain ⟨A5, c5, rfl⟩ := rd_shp hr5; have HT5 := Lib.hid hr5; have HB6 := Lib.hid (HB5.out.trans (hb5.mono hS5)); have HR6 := Lib.hid (HR5.out.keep hb5); clear hr5 hb5; generalize (trn l).length = L5 at *)
            | (go_at_call 33; refine (HK1.out _ _ HT5.out).mono ?_; rintro e w6 ⟨rfl, hb6⟩; have HB7 := Lib.hid (HB6.out.trans (hb6.mono HB6.out.size)); have HR7 := Lib.hid (HR6.out.keep hb6); clear hb6))
          all_goals
            clear HTN HK1 HAT HWD HX HT5
            go_wp2_with fail
            refine (HK2.out _ HR7.out).mono ?_; rintro e w8 ⟨rfl, hb8⟩
            have HB8 := Lib.hid (HB7.out.trans (hb8.mono HB7.out.size))
            clear hb8
            go_wp2_with fail
            go_ret2
            exact ⟨rfl, HB8.out⟩
        · rw [decide_eq_false hfk] at hE
          rw [fkV_no hE, hE]
          have hXZ : X ≠ Z := fun e => hfk (by rw [← ba_list (fkG _ _ _), ← hX, e, hZl])
          rw [← m8] at HWD hle hw
          generalize fkW l = W at *
          have HXZ := Lib.hid hXZ
          clear h hXZ hE hI hsz hsb x1 x2 x3 hxo hKe hKl hb hn1 ht h0 m1 m2 m3 m4 m5 m6 m7 m8 m12 f1 f2 htn hbn hZ hY hX hZl hex hfk
          go_enter Try.func23, Try.ntmps23
          go_wp2_with fail
          refine HX.out.mono ?_; rintro e w1 ⟨rfl, hb1⟩
          have HB1 := Lib.hid hb1
          have HR1 := Lib.hid (HRD.out.keep hb1)
          clear hb1
          go_wp2_with fail
          refine (HAT.out _ HR1.out).mono ?_; rintro e w2 ⟨rfl, q, rfl⟩
          have HB2 := Lib.hid (below_drewN HB1.out q)
          have HR2 := Lib.hid (HR1.out.drewN q)
          generalize w1.drewN q = w2 at *
          go_wp2_with fail
          refine (HWD.out _ HR2.out).mono ?_; rintro e w3 ⟨rfl, q3, rfl⟩
          have HB3 := Lib.hid (below_drewN HB2.out q3)
          have HR3 := Lib.hid (HR2.out.drewN q3)
          generalize w2.drewN q3 = w3 at *
          go_wp2_with fail
          refine (HWD.out _ HR3.out).mono ?_; rintro e w4 ⟨rfl, q4, rfl⟩
          have HB4 := Lib.hid (below_drewN HB3.out q4)
          have HR4 := Lib.hid (HR3.out.drewN q4)
          generalize w3.drewN q4 = w4 at *
          go_wp2_with fail
          have HR5 : Hid (Rd w4.drew (.slice A n1 c) l) := HR4.out.keep (Below.refl w4.heap.size w4).drew
          have HB5 : Hid (Below w.heap.size w w4.drew) := HB4.out.drew
          have hS5 : w.heap.size ≤ w4.drew.heap.size := HB5.out.size
          have hs1 : (0 : Int) ≤ (W : Int) := by omega
          have hs2 : (W : Int) ≤ (Z.size : Int) := by omega
          have hs3 : (W : Int).toNat = W := by omega
          go_region_with (first
            | (go_at_call 58; refine (HTN.out _ HR5.out).mono ?_; rintro e w5 ⟨v5, rfl, hr5, hb5⟩; obtain ⟨A5, c5, rfl⟩ := rd_shp hr5; have HT5 := Lib.hid hr5; have HB6 := Lib.hid (HB5.out.trans (hb5.mono hS5)); have HR6 := Lib.hid (HR5.out.keep hb5); clear hr5 hb5; generalize (trn l).length = L5 at *)
            | (go_at_call 33; refine (HK1.out _ _ HT5.out).mono ?_; rintro e w6 ⟨rfl, hb6⟩; have HB7 := Lib.hid (HB6.out.trans (hb6.mono HB6.out.size)); have HR7 := Lib.hid (HR6.out.keep hb6); clear hb6))
          all_goals
            clear HTN HK1 HAT HWD HX HT5
            go_wp2_with fail
            refine (HK2.out _ HR7.out).mono ?_; rintro e w8 ⟨rfl, hb8⟩
            have HB8 := Lib.hid (HB7.out.trans (hb8.mono HB7.out.size))
            clear hb8
            have hne := str_neF HXZ.out
            go_wp2_with fail
            go_ret2
            exact ⟨rfl, HB8.out⟩
      · rw [decide_eq_false hle] at hI
        rw [hI, Bool.false_and] at hE
        rw [fkV_no hE, hE]
        have hZs : (⟨(fkK a.data.toList b.data.toList).toArray⟩ : ByteArray).size = a.size := hKl
        generalize (⟨(fkK a.data.toList b.data.toList).toArray⟩ : ByteArray) = Z at *
        generalize wid l = Wd at *
        clear h hE hI hsz hsb x1 x2 x3 hxo hKe hKl hb hn1 HTN ht h0
        go_enter Try.func23, Try.ntmps23
        go_wp2_with fail
        refine HX.out.mono ?_; rintro e w1 ⟨rfl, hb1⟩
        have HB1 := Lib.hid hb1
        have HR1 := Lib.hid (HRD.out.keep hb1)
        clear hb1
        go_wp2_with fail
        refine (HAT.out _ HR1.out).mono ?_; rintro e w2 ⟨rfl, q, rfl⟩
        have HB2 := Lib.hid (below_drewN HB1.out q)
        have HR2 := Lib.hid (HR1.out.drewN q)
        generalize w1.drewN q = w2 at *
        have hlt : (a.size : Int) < Wd := by omega
        go_wp2_with fail
        refine (HWD.out _ HR2.out).mono ?_; rintro e w3 ⟨rfl, q3, rfl⟩
        go_wp2_with fail
        go_ret2
        exact ⟨rfl, below_drewN HB2.out q3⟩
  · have hxo : xorOk a.data.toList b.data.toList = false := by
      rw [Bool.eq_false_iff]
      intro hc
      unfold xorOk at hc
      simp only [Bool.and_eq_true, decide_eq_true_eq] at hc
      exact hx ⟨hc.1.1, hc.1.2, by omega⟩
    have HX := Lib.hid (xor_no_impl a b w ha hb2 hx)
    rw [hxo, Bool.false_and, Bool.and_false] at hI
    rw [hI, Bool.false_and] at hE
    rw [fkV_no hE, hE]
    clear hE hI hx hxo hsz hsb
    go_enter Try.func23, Try.ntmps23
    go_wp2_with fail
    refine HX.out.mono ?_; rintro e w1 ⟨rfl, hb1⟩
    have HB1 := Lib.hid hb1
    clear hb1
    go_wp2_with fail
    go_ret2
    exact ⟨rfl, HB1.out⟩
end Go.Proofs.Ytddlpbpcdjddpaa
