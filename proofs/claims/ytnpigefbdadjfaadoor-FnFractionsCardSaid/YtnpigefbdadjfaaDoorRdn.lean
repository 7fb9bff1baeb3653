/- Contracts of the model's and the program's readers of decimal texts. -/
import Derived.Test.YtnpigefbdadjfaaDoorGrt
import Derived.Lib.AtoiErrMem
namespace Go.Proofs.YtnpigefbdadjfaaDoor
open Go Go.RowKit
set_option linter.unusedVariables false

/-- What a reader of texts of numbers up to M answers. -/
def rdN (M : Int) (l : List UInt8) : Int := match Lib.parseIntB 64 l with
  | .ok v => if -M ≤ v ∧ v ≤ M ∧ Lib.itoa v = l then v else 0
  | _ => 0
def rdOk (M : Int) (l : List UInt8) : Bool := match Lib.parseIntB 64 l with
  | .ok v => decide (-M ≤ v ∧ v ≤ M ∧ Lib.itoa v = l)
  | _ => false
theorem rd_yes {M : Int} {l : List UInt8} {v : Int} (hM : M ≤ 1000000000000000000) (h0 : -M ≤ v) (h1 : v ≤ M) (h : Lib.itoa v = l) : rdN M l = v ∧ rdOk M l = true := by
  have hp := parse_itoa v (by omega) (by omega)
  rw [h] at hp
  unfold rdN rdOk
  rw [hp]
  exact ⟨if_pos ⟨h0, h1, h⟩, decide_eq_true ⟨h0, h1, h⟩⟩
theorem rd_no {M : Int} {l : List UInt8} (h : ∀ v : Int, -M ≤ v → v ≤ M → Lib.itoa v = l → False) : rdN M l = 0 ∧ rdOk M l = false := by
  unfold rdN rdOk
  split
  · rename_i v _
    have hn : ¬ (-M ≤ v ∧ v ≤ M ∧ Lib.itoa v = l) := fun e => h v e.1 e.2.1 e.2.2
    exact ⟨if_neg hn, decide_eq_false hn⟩
  · exact ⟨rfl, rfl⟩

/-- What the program's reader asks of the world. -/
structure Vars (w : World) : Prop where
  tab : Lib.TabIs Tryd.prog w "internal/strconv.uint64pow10" .u64 Lib.pow10Tab
  e1 : ∃ t p, w.var? Tryd.prog "strconv.ErrSyntax" = some #[.iface t p]
  e2 : ∃ t p, w.var? Tryd.prog "strconv.ErrRange" = some #[.iface t p]
theorem Vars.keep {w w' : World} (h : Vars w) (hb : Below w.heap.size w w') : Vars w' := by
  obtain ⟨h1, ⟨t2, p2, h2⟩, ⟨t3, p3, h3⟩⟩ := h
  have g1 : Tryd.prog.globalNamed "strconv.ErrSyntax" = some 9 := by kernel_rfl
  have g2 : Tryd.prog.globalNamed "strconv.ErrRange" = some 10 := by kernel_rfl
  exact ⟨Lib.tabBelow_of_tabIs h1 _ hb, ⟨t2, p2, Joins.var_stays g1 h2 hb (Nat.le_refl _)⟩, ⟨t3, p3, Joins.var_stays g2 h3 hb (Nat.le_refl _)⟩⟩

set_option maxRecDepth 100000 in
theorem readNumber_any (s : ByteArray) (hs : s.size ≤ 1048576) (M : Int) (hM0 : 0 ≤ M) (hM : M ≤ 1000000000000000000) (w : World) (hv : Vars w) :
    Calls Tryd.prog 81 #[.string s, .int .i64 M] w fun e w' => e = .returned (.tuple #[.int .i64 (rdN M s.data.toList), .bool (rdOk M s.data.toList)]) ∧ Below w.heap.size w w' := by
  have HV := Lib.hid hv
  cases hp : Lib.parseIntB 64 s.data.toList
  case ok v =>
    have HP := Lib.hid (Tryd.strconv_ParseInt_10_at64_ok s (by omega) v hp w)
    have hbd := Lib.parseIntB_bounds hp
    obtain ⟨b0, b1⟩ : -9223372036854775808 ≤ v ∧ v ≤ 9223372036854775807 := by
      have e : ((2 ^ (64 - 1) : Nat) : Int) = 9223372036854775808 := by decide
      rw [e] at hbd; omega
    have HD := Lib.hid (fun W h => decimal_impl v b0 b1 W h)
    have HR : Hid (rdN M s.data.toList = (if -M ≤ v ∧ v ≤ M ∧ Lib.itoa v = s.data.toList then v else 0) ∧ rdOk M s.data.toList = decide (-M ≤ v ∧ v ≤ M ∧ Lib.itoa v = s.data.toList)) := by
      show _ ∧ _
      unfold rdN rdOk; rw [hp]; exact ⟨rfl, rfl⟩
    have HQ : Hid (((⟨(Lib.itoa v).toArray⟩ : ByteArray) == s) = decide (Lib.itoa v = s.data.toList)) := by
      show _ = _
      rw [Bool.eq_iff_iff, decide_eq_true_iff]
      constructor
      · intro e
        have := bytes_eq e
        rw [← this]
      · intro e
        rw [e]
        have : (⟨s.data.toList.toArray⟩ : ByteArray) = s := by cases s; simp
        rw [this]
        exact bytes_beq s
    generalize (⟨(Lib.itoa v).toArray⟩ : ByteArray) = d at *
    clear hp hbd hv
    have tM : IntKind.i64.wrap (-M) = -M := IntWalk.i64_in _ (by omega)
    by_cases hr : -M ≤ v ∧ v ≤ M
    · obtain ⟨r1, r2⟩ := hr
      by_cases hq : Lib.itoa v = s.data.toList
      · have HE : Hid ((d.toList == s.toList) = true) := by show _ = _; rw [← beq_toListBytes, HQ.out]; exact decide_eq_true hq
        have HR2 : Hid (rdN M s.data.toList = v ∧ rdOk M s.data.toList = true) := by show _ ∧ _; rw [HR.out.1, HR.out.2]; exact ⟨if_pos ⟨r1, r2, hq⟩, decide_eq_true ⟨r1, r2, hq⟩⟩
        have he := HE.out
        clear hq HQ HR
        go_enter Tryd.func81, Tryd.ntmps81
        go_wp2_with fail
        refine HP.out.mono ?_; rintro e w1 ⟨rfl, hw⟩
        have HB : Hid (Below w.heap.size w w1) := by
          show Below _ _ _
          rcases hw with rfl | ⟨t, rfl⟩
          · exact Below.refl _ _
          · exact Lib.bytesWorld_below _ _ _
        clear hw
        go_wp2_with fail
        refine (btw_yes _ _ _ _ r1 r2).mono ?_; rintro e w' ⟨rfl, rfl⟩
        go_wp2_with fail
        refine (HD.out _ (HV.out.keep HB.out).tab).mono ?_; rintro e w5 ⟨rfl, hb5⟩
        have HB5 := Lib.hid (HB.out.trans (hb5.mono HB.out.size))
        clear hb5
        go_wp2_with fail
        go_ret2
        exact ⟨(by rw [HR2.out.1, HR2.out.2]; try rfl), HB5.out⟩
      · have HE : Hid ((d.toList == s.toList) = false) := by show _ = _; rw [← beq_toListBytes, HQ.out]; exact decide_eq_false hq
        have HR2 : Hid (rdN M s.data.toList = 0 ∧ rdOk M s.data.toList = false) := by show _ ∧ _; rw [HR.out.1, HR.out.2]; exact ⟨if_neg (fun e => hq e.2.2), decide_eq_false (fun e => hq e.2.2)⟩
        have he := HE.out
        clear hq HQ HR
        go_enter Tryd.func81, Tryd.ntmps81
        go_wp2_with fail
        refine HP.out.mono ?_; rintro e w1 ⟨rfl, hw⟩
        have HB : Hid (Below w.heap.size w w1) := by
          show Below _ _ _
          rcases hw with rfl | ⟨t, rfl⟩
          · exact Below.refl _ _
          · exact Lib.bytesWorld_below _ _ _
        clear hw
        go_wp2_with fail
        refine (btw_yes _ _ _ _ r1 r2).mono ?_; rintro e w' ⟨rfl, rfl⟩
        go_wp2_with fail
        refine (HD.out _ (HV.out.keep HB.out).tab).mono ?_; rintro e w5 ⟨rfl, hb5⟩
        have HB5 := Lib.hid (HB.out.trans (hb5.mono HB.out.size))
        clear hb5
        go_wp2_with fail
        go_ret2
        exact ⟨(by rw [HR2.out.1, HR2.out.2]; try rfl), HB5.out⟩
    · have HR2 : Hid (rdN M s.data.toList = 0 ∧ rdOk M s.data.toList = false) := by show _ ∧ _; rw [HR.out.1, HR.out.2]; exact ⟨if_neg (fun e => hr ⟨e.1, e.2.1⟩), decide_eq_false (fun e => hr ⟨e.1, e.2.1⟩)⟩
      have HX := Lib.hid hr
      clear hr HQ HR
      go_enter Tryd.func81, Tryd.ntmps81
      go_wp2_with fail
      refine HP.out.mono ?_; rintro e w1 ⟨rfl, hw⟩
      have HB : Hid (Below w.heap.size w w1) := by
        show Below _ _ _
        rcases hw with rfl | ⟨t, rfl⟩
        · exact Below.refl _ _
        · exact Lib.bytesWorld_below _ _ _
      clear hw
      go_wp2_with fail
      refine (btw_no _ _ _ _ HX.out).mono ?_; rintro e w' ⟨rfl, rfl⟩
      go_wp2_with fail
      go_ret2
      exact ⟨(by rw [HR2.out.1, HR2.out.2]; try rfl), HB.out⟩
  all_goals
    have hz : rdN M s.data.toList = 0 ∧ rdOk M s.data.toList = false := by unfold rdN rdOk; rw [hp]; exact ⟨rfl, rfl⟩
    rw [hz.1, hz.2]
    clear hz
    first
      | (obtain ⟨t, p, hvar⟩ := hv.e1; have HP := Lib.hid (Any.strconv_ParseInt_10_at64_syntax_var Tryd.laysC174 s (by omega) hp t p w hvar))
      | (obtain ⟨t, p, hvar⟩ := hv.e2; have HP := Lib.hid (Any.strconv_ParseInt_10_at64_range_var Tryd.laysC174 s (by omega) hp t p w hvar))
    clear hvar hv hp
    go_enter Tryd.func81, Tryd.ntmps81
    go_wp2_with fail
    refine HP.out.mono ?_; rintro e w1 ⟨N, rfl, -, -, hb⟩
    have HB := Lib.hid hb
    clear hb
    go_wp2_with fail
    go_ret2
    exact ⟨rfl, HB.out⟩
end Go.Proofs.YtnpigefbdadjfaaDoor
