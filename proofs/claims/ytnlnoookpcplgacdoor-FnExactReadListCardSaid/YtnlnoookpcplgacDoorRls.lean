/- The contract of the model's ReadList. -/
import Derived.Test.YtnlnoookpcplgacDoorRlp
import Derived.Test.YtnlnoookpcplgacDoorVal
import Derived.Test.YtnlnoookpcplgacDoorRd
import Derived.Test.YtnlnoookpcplgacDoorApp
import Derived.Deep.AppendLies
namespace Go.Proofs.YtnlnoookpcplgacDoor
open Go Go.RowKit
set_option linter.unusedVariables false

theorem pc_list (s : ByteArray) (f k : Nat) : (s.extract f k).data.toList = (s.data.toList.drop f).take (k - f) := by
  rw [ByteArray.data_extract, Array.toList_extract, List.extract_eq_take_drop]
theorem pc_no {l : List UInt8} {f k : Nat} (h : ∀ j, f ≤ j → j < k → l[j]? ≠ some 44) : ∀ c ∈ (l.drop f).take (k - f), c ≠ 44 := by
  intro c hc e
  obtain ⟨j, hj, e2⟩ := List.getElem_of_mem hc
  rw [List.length_take, List.length_drop] at hj
  rw [List.getElem_take, List.getElem_drop] at e2
  have hlt : f + j < l.length := by omega
  refine h (f + j) (by omega) (by omega) ?_
  rw [List.getElem?_eq_getElem hlt, e2, e]
theorem pc_end {l : List UInt8} {f : Nat} (h : ∀ j, f ≤ j → j < l.length → l[j]? ≠ some 44) : sp (l.drop f) = [(l.drop f).take (l.length - f)] := by
  have e : (l.drop f).take (l.length - f) = l.drop f := List.take_of_length_le (by rw [List.length_drop]; exact Nat.le_refl _)
  rw [e]
  refine sp_last ?_
  have := pc_no h
  rw [e] at this
  exact this
theorem pc_mid {l : List UInt8} {f k : Nat} (hfk : f ≤ k) (hk : l[k]? = some 44) (h : ∀ j, f ≤ j → j < k → l[j]? ≠ some 44) : sp (l.drop f) = (l.drop f).take (k - f) :: sp (l.drop (k + 1)) := by
  have hlt : k < l.length := by
    rcases Nat.lt_or_ge k l.length with h' | h'
    · exact h'
    · rw [List.getElem?_eq_none h'] at hk; cases hk
  have hv : l[k] = 44 := by rw [List.getElem?_eq_getElem hlt] at hk; exact Option.some.inj hk
  have e : l.drop f = (l.drop f).take (k - f) ++ 44 :: l.drop (k + 1) := by
    have h1 : (l.drop f).drop (k - f) = l.drop k := by rw [List.drop_drop]; congr 1; omega
    rw [← hv, List.getElem_cons_drop, ← h1, List.take_append_drop]
  conv => lhs; rw [e]
  exact sp_cut (pc_no h)
theorem rl_bad {l p : List UInt8} {ps rest : List (List UInt8)} (hn : l ≠ noneT) (h : sp l = ps ++ p :: rest) (hb : rdOk MV p = false) : rlOk l = false := by
  unfold rlOk
  rw [decide_eq_false hn, h, List.all_append, List.all_cons, hb]
  simp
theorem rl_many {l p : List UInt8} {ps rest : List (List UInt8)} (hn : l ≠ noneT) (h : sp l = ps ++ p :: rest) (hb : ps.length = 64) : rlOk l = false := by
  unfold rlOk
  rw [decide_eq_false hn, h, List.length_append, List.length_cons, decide_eq_false (by omega)]
  rfl
theorem rl_good {l : List UInt8} (hn : l ≠ noneT) (h1 : (sp l).length ≤ 64) (h2 : (sp l).all (rdOk MV) = true) : rlOk l = true ∧ rlV l = (sp l).map (rdN MV) := by
  have e : rlOk l = true := by unfold rlOk; rw [decide_eq_true h1, h2]; simp
  refine ⟨e, ?_⟩
  unfold rlV
  rw [if_pos e, if_neg hn]
theorem rl_none : rlOk noneT = true ∧ rlV noneT = [] := ⟨rfl, rfl⟩
theorem ret_vb {a b : Value} {c d : Bool} (h : a = b) (h1 : c = d) : Ending.returned (.tuple #[a, .bool c]) = .returned (.tuple #[b, .bool d]) := by rw [h, h1]

set_option maxHeartbeats 1600000 in
set_option maxRecDepth 100000 in
theorem numbers_any (s : ByteArray) (hs : s.size ≤ 1048576) (w : World) :
    Calls Tryd.prog 26 #[.string s] w fun e w' => ∃ v, e = .returned (.tuple #[v, .bool (rlOk s.data.toList)]) ∧ Own w' w.heap.size v (rlV s.data.toList) ∧ Below w.heap.size w w' := by
  obtain ⟨i0, hi, hz0, hz1, hz2⟩ := info_parts Tryd.infoInt
  have hz : s.data.toList.length = s.size := rfl
  have hal : Below w.heap.size w (w.alloc (.cells #[] 2)) := (Below.refl _ _).alloc (Nat.le_refl _) _
  have hrow : (w.alloc (.cells #[] 2)).ownsRow w.heap.size 2 1 (.slice (some ⟨w.heap.size, 0, none⟩) 0 0) 0 [] := World.ownsRow_made w #[] 0 (Nat.le_refl _) (by decide) rfl
  have HROW := Lib.hid hrow
  have HAL := Lib.hid hal
  clear hrow hal
  by_cases hN : s.data.toList = noneT
  · have es : s = ⟨noneT.toArray⟩ := ByteArray.ext (Array.toList_inj.1 hN)
    have HE := Lib.hid rl_none
    rw [← hN] at HE
    clear hN hz hs
    have tn : (s.toList == (⟨#[110, 111, 110, 101]⟩ : ByteArray).toList) = true := by rw [es]; exact (beq_toListBytes _ _).symm.trans (bytes_beq _)
    rw [show (⟨#[110, 111, 110, 101]⟩ : ByteArray).toList = [110, 111, 110, 101] from by simp] at tn
    clear es
    go_enter Tryd.func26, Tryd.ntmps26
    go_wp2_with fail
    go_loopw [4, 5, 6] (fun out f i wr => out = .slice (some ⟨w.heap.size, 0, none⟩) 0 0 ∧ i = .int .i64 0 ∧ wr = w.alloc (.cells #[] 2)) (fun _ _ _ _ => 0)
    case atStart => exact ⟨rfl, rfl, rfl⟩
    case round =>
      obtain ⟨rfl, rfl, rfl⟩ := hrel
      go_wp2_with fail
      go_ret2
      exact ⟨_, ret_vb rfl HE.out.1.symm, by rw [HE.out.2]; exact HROW.out, HAL.out⟩
  have HN := Lib.hid hN
  have tn : (s.toList == (⟨#[110, 111, 110, 101]⟩ : ByteArray).toList) = false := by
    rw [← beq_toListBytes]
    cases hh : (s == (⟨#[110, 111, 110, 101]⟩ : ByteArray))
    · rfl
    · exact absurd (by rw [bytes_eq hh]; rfl) hN
  rw [show (⟨#[110, 111, 110, 101]⟩ : ByteArray).toList = [110, 111, 110, 101] from by simp] at tn
  have HV := Lib.hid (fun t ht W => value_any t ht W)
  have HS := Lib.hid hs
  clear hN
  go_enter Tryd.func26, Tryd.ntmps26
  go_wp2_with fail
  go_loopw [4, 5, 6] (fun out f i wr => ∃ (fn k : Nat) (ps : List (List UInt8)) (V : List Int), V = ps.map (rdN MV) ∧ i = .int .i64 k ∧ f = .int .i64 fn ∧ Own wr w.heap.size out V ∧ Below w.heap.size w wr ∧ ps.all (rdOk MV) = true ∧ ps.length ≤ 64 ∧ k ≤ s.size + 1 ∧ fn ≤ k ∧ ((k ≤ s.size ∧ sp s.data.toList = ps ++ sp (s.data.toList.drop fn) ∧ ∀ j, fn ≤ j → j < k → s.data.toList[j]? ≠ some 44) ∨ (k = s.size + 1 ∧ sp s.data.toList = ps))) (fun _ _ i _ => s.size + 1 - (intOf i).toNat)
  case atStart => exact ⟨0, 0, [], [], rfl, rfl, rfl, HROW.out, HAL.out, rfl, by simp, by omega, Nat.le_refl _, Or.inl ⟨Nat.zero_le _, by simp, fun j _ h => by omega⟩⟩
  case round =>
    obtain ⟨fn, k, ps, V, hvm, rfl, rfl, hown, hb, hall, hl64, hk1, hfk, hor⟩ := hrel
    obtain ⟨Ad, cd, ed⟩ := own_shape hown
    subst ed
    have HO := Lib.hid hown
    have HB := Lib.hid hb
    have BS := Lib.hid hb.size
    have HAL2 := Lib.hid hall
    clear hown hb hall
    have hvl : V.length = ps.length := by rw [hvm]; exact List.length_map _
    have HVM := Lib.hid hvm
    have hv64 : V.length ≤ 64 := by omega
    have HVL := Lib.hid hvl
    clear hvl
    clear hvm
    rcases hor with ⟨hk, hsp, hnc⟩ | ⟨hke, hsp⟩
    rotate_left
    · subst hke
      have hr := rl_good HN.out (by rw [hsp]; exact hl64) (by rw [hsp]; exact HAL2.out)
      rw [hsp] at hr
      have HE := Lib.hid hr
      clear hr hsp
      have tk : decide (((s.size + 1 : Nat) : Int) ≤ (s.size : Int)) = false := decide_eq_false (by omega)
      have tk2 : ¬ ((s.size : Int) + 1 ≤ (s.size : Int)) := by omega
      go_wp2_with fail
      go_ret2
      exact ⟨_, ret_vb rfl HE.out.1.symm, by rw [HE.out.2, ← HVM.out]; exact HO.out, HB.out⟩
    have HSP := Lib.hid hsp
    have HNC := Lib.hid hnc
    have kle : (k : Int) ≤ (s.size : Int) := by omega
    clear hsp hnc
    by_cases hlt : k < s.size
    · by_cases h44 : s[k] = 44
      · have h1 : (s[k].toNat : Int) = 44 := by rw [h44]; rfl
        have h2 : ((s[k].toNat : Int) == 44) = true := by simpa using h1
        have h3 : s[k].toNat = 44 := by omega
        have hst := pc_mid hfk (show s.data.toList[k]? = some 44 by rw [List.getElem?_eq_getElem (show k < s.data.toList.length from hlt)]; exact congrArg some h44) HNC.out
        rw [← pc_list] at hst
        have hsp2 := HSP.out
        rw [hst] at hsp2
        have HSP2 := Lib.hid hsp2
        have hpz : (s.extract fn k).size ≤ 1048576 := by have := HS.out; simp; omega
        have HP := Lib.hid (fun W => HV.out _ hpz W)
        clear hst hsp2 hpz HSP
        go_wp2_with fail
        generalize s.extract fn k = P at HSP2 HP ⊢
        cases hok : rdOk MV P.data.toList
        · have hbad := rl_bad HN.out HSP2.out hok
          have HE := Lib.hid (And.intro (rl_no hbad) hbad)
          have HP2 : Hid (∀ W : World, Calls Tryd.prog 43 #[.string P] W fun e w' => e = .returned (.tuple #[.int .i64 (rdN MV P.data.toList), .bool false]) ∧ Below W.heap.size W w') := by show ∀ _, _; intro W; have := HP.out W; rw [hok] at this; exact this
          clear hbad hok HP
          generalize rdN MV P.data.toList = x at *
          refine (HP2.out _).mono ?_; rintro e w1 ⟨rfl, hb1⟩
          have B1 := Lib.hid (HB.out.trans (hb1.mono HB.out.size))
          clear hb1
          go_wp2_with fail
          go_ret2
          exact ⟨_, ret_vb rfl HE.out.2.symm, by rw [HE.out.1]; exact World.ownsRow_nil _ _ _ _, B1.out⟩
        · have HP2 : Hid (∀ W : World, Calls Tryd.prog 43 #[.string P] W fun e w' => e = .returned (.tuple #[.int .i64 (rdN MV P.data.toList), .bool true]) ∧ Below W.heap.size W w') := by show ∀ _, _; intro W; have := HP.out W; rw [hok] at this; exact this
          have HMP : Hid (V ++ [rdN MV P.data.toList] = (ps ++ [P.data.toList]).map (rdN MV)) := by show _ = _; rw [List.map_append, HVM.out]; rfl
          have HAO : Hid ((ps ++ [P.data.toList]).all (rdOk MV) = true) := by show _ = _; rw [List.all_append, HAL2.out, List.all_cons, hok]; rfl
          have HSP3 : Hid (sp s.data.toList = (ps ++ [P.data.toList]) ++ sp (s.data.toList.drop (k + 1))) := by show _ = _; rw [HSP2.out, List.append_assoc]; rfl
          have hmany := fun (h : V.length = 64) => rl_many HN.out HSP2.out (HVL.out ▸ h)
          clear hok HP
          generalize rdN MV P.data.toList = x at *
          refine (HP2.out _).mono ?_; rintro e w1 ⟨rfl, hb1⟩
          have HO1 := Lib.hid (own_below HO.out hb1)
          have B1 := Lib.hid (HB.out.trans (hb1.mono HB.out.size))
          have BS1 := Lib.hid B1.out.size
          clear hb1
          by_cases h64 : V.length = 64
          · have hbad := hmany h64
            have HE := Lib.hid (And.intro (rl_no hbad) hbad)
            clear hbad hmany
            go_wp2_with fail
            go_ret2
            exact ⟨_, ret_vb rfl HE.out.2.symm, by rw [HE.out.1]; exact World.ownsRow_nil _ _ _ _, B1.out⟩
          · clear hmany
            have t64 : ((V.length : Int) == 64) = false := by simp; omega
            go_wp2_with (at_builtin; refine wpList_append_lies _ rfl _ _ 28 rfl w.heap.size 2 i0 (.int .i64 0) 1 8 Tryd.underlying28 hi hz0 hz1 hz2 rfl (by decide) _ _ _ rfl (World.ownsRow.alloc HO1.out _) ⟨w1.heap.size, 0, none⟩ 1 1 [.int .i64 x] rfl rfl ?c1 ?c2 (by decide) ?c3 ?c4 ?c5 (w1.heap.size + 1) (by simp) ?_)
            case c1 => exact c1_b _ _ _
            case c2 => intro u hu; simp at hu; subst hu; rfl
            case c3 => unfold maxLen; omega
            case c4 => omega
            case c5 => have := BS1.out; simp; omega
            intro g2 cap2 w2 hown2 hgrow2 hat2 hlt3
            have HO2 := Lib.hid (own_snocI hown2)
            have HB2 := Lib.hid (below_appN B1.out BS1.out HO1.out hgrow2)
            clear hown2 hgrow2 hat2 hlt3 HO1 B1 BS1
            go_wp2_with fail
            go_roundw
            case rel => exact ⟨k + 1, k + 1, ps ++ [P.data.toList], _, HMP.out, by go_num, by go_num, HO2.out, HB2.out, HAO.out, by rw [List.length_append]; show ps.length + 1 ≤ 64; have := HVL.out; omega, by omega, Nat.le_refl _, Or.inl ⟨by omega, HSP3.out, fun j a b => by omega⟩⟩
            case measure => simp [intOf] <;> omega
      · have h1 : ¬ (s[k].toNat : Int) = 44 := by
          intro e
          refine h44 (UInt8.toNat_inj.1 ?_)
          have e2 : (44 : UInt8).toNat = 44 := rfl
          omega
        have h2 : ((s[k].toNat : Int) == 44) = false := by simpa using h1
        have h3 : ¬ s[k].toNat = 44 := by omega
        go_wp2_with fail
        go_roundw
        case rel => exact ⟨fn, k + 1, ps, V, HVM.out, by go_num, rfl, HO.out, HB.out, HAL2.out, hl64, by omega, by omega, Or.inl ⟨by omega, HSP.out, fun j a b => by
          rcases Nat.lt_or_ge j k with h' | h'
          · exact HNC.out j a h'
          · obtain rfl : j = k := by omega
            rw [List.getElem?_eq_getElem (show j < s.data.toList.length from hlt)]
            exact fun e => h44 (Option.some.inj e)⟩⟩
        case measure => simp [intOf]; omega
    · obtain rfl : k = s.size := by omega
      have hlt2 : ¬ ((s.size : Int) < (s.size : Int)) := by omega
      have hst := pc_end (l := s.data.toList) (f := fn) (fun j a b => HNC.out j a (by omega))
      rw [hz, ← pc_list] at hst
      have hsp2 := HSP.out
      rw [hst] at hsp2
      have HSP2 := Lib.hid hsp2
      have hpz : (s.extract fn s.size).size ≤ 1048576 := by have := HS.out; simp; omega
      have HP := Lib.hid (fun W => HV.out _ hpz W)
      clear hst hsp2 hpz HSP
      go_wp2_with fail
      generalize s.extract fn s.size = P at HSP2 HP ⊢
      cases hok : rdOk MV P.data.toList
      · have hbad := rl_bad HN.out HSP2.out hok
        have HE := Lib.hid (And.intro (rl_no hbad) hbad)
        have HP2 : Hid (∀ W : World, Calls Tryd.prog 43 #[.string P] W fun e w' => e = .returned (.tuple #[.int .i64 (rdN MV P.data.toList), .bool false]) ∧ Below W.heap.size W w') := by show ∀ _, _; intro W; have := HP.out W; rw [hok] at this; exact this
        clear hbad hok HP
        generalize rdN MV P.data.toList = x at *
        refine (HP2.out _).mono ?_; rintro e w1 ⟨rfl, hb1⟩
        have B1 := Lib.hid (HB.out.trans (hb1.mono HB.out.size))
        clear hb1
        go_wp2_with fail
        go_ret2
        exact ⟨_, ret_vb rfl HE.out.2.symm, by rw [HE.out.1]; exact World.ownsRow_nil _ _ _ _, B1.out⟩
      · have HP2 : Hid (∀ W : World, Calls Tryd.prog 43 #[.string P] W fun e w' => e = .returned (.tuple #[.int .i64 (rdN MV P.data.toList), .bool true]) ∧ Below W.heap.size W w') := by show ∀ _, _; intro W; have := HP.out W; rw [hok] at this; exact this
        have HMP : Hid (V ++ [rdN MV P.data.toList] = (ps ++ [P.data.toList]).map (rdN MV)) := by show _ = _; rw [List.map_append, HVM.out]; rfl
        have HAO : Hid ((ps ++ [P.data.toList]).all (rdOk MV) = true) := by show _ = _; rw [List.all_append, HAL2.out, List.all_cons, hok]; rfl
        have HSP3 : Hid (sp s.data.toList = (ps ++ [P.data.toList]) ++ []) := by show _ = _; rw [HSP2.out, List.append_assoc]; rfl
        have hmany := fun (h : V.length = 64) => rl_many HN.out HSP2.out (HVL.out ▸ h)
        clear hok HP
        generalize rdN MV P.data.toList = x at *
        refine (HP2.out _).mono ?_; rintro e w1 ⟨rfl, hb1⟩
        have HO1 := Lib.hid (own_below HO.out hb1)
        have B1 := Lib.hid (HB.out.trans (hb1.mono HB.out.size))
        have BS1 := Lib.hid B1.out.size
        clear hb1
        by_cases h64 : V.length = 64
        · have hbad := hmany h64
          have HE := Lib.hid (And.intro (rl_no hbad) hbad)
          clear hbad hmany
          go_wp2_with fail
          go_ret2
          exact ⟨_, ret_vb rfl HE.out.2.symm, by rw [HE.out.1]; exact World.ownsRow_nil _ _ _ _, B1.out⟩
        · clear hmany
          have t64 : ((V.length : Int) == 64) = false := by simp; omega
          go_wp2_with (at_builtin; refine wpList_append_lies _ rfl _ _ 28 rfl w.heap.size 2 i0 (.int .i64 0) 1 8 Tryd.underlying28 hi hz0 hz1 hz2 rfl (by decide) _ _ _ rfl (World.ownsRow.alloc HO1.out _) ⟨w1.heap.size, 0, none⟩ 1 1 [.int .i64 x] rfl rfl ?c1 ?c2 (by decide) ?c3 ?c4 ?c5 (w1.heap.size + 1) (by simp) ?_)
          case c1 => exact c1_b _ _ _
          case c2 => intro u hu; simp at hu; subst hu; rfl
          case c3 => unfold maxLen; omega
          case c4 => omega
          case c5 => have := BS1.out; simp; omega
          intro g2 cap2 w2 hown2 hgrow2 hat2 hlt3
          have HO2 := Lib.hid (own_snocI hown2)
          have HB2 := Lib.hid (below_appN B1.out BS1.out HO1.out hgrow2)
          clear hown2 hgrow2 hat2 hlt3 HO1 B1 BS1
          go_wp2_with fail
          go_roundw
          case rel => exact ⟨s.size + 1, s.size + 1, ps ++ [P.data.toList], _, HMP.out, by go_num, by go_num, HO2.out, HB2.out, HAO.out, by rw [List.length_append]; show ps.length + 1 ≤ 64; have := HVL.out; omega, by omega, Nat.le_refl _, Or.inr ⟨by omega, by have := HSP3.out; rw [List.append_nil] at this; exact this⟩⟩
          case measure => simp [intOf] <;> omega
end Go.Proofs.YtnlnoookpcplgacDoor
