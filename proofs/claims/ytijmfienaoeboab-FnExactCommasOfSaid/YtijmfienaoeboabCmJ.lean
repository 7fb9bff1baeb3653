/- The program's IsComma. -/
import Derived.Test.YtijmfienaoeboabCmI
import Derived.Test.YtijmfienaoeboabBtw
namespace Go.Proofs.Ytijmfienaoeboab
open Go Go.RowKit
set_option linter.unusedVariables false

theorem bcOk_ne {d wd : Int} {m p : List ByteArray} (h : bcOk d wd m p = true) : m ≠ [] ∧ p ≠ [] := by
  obtain ⟨-, h1, h2⟩ := bcOk_nums h
  have : 0 < 2 ^ d.toNat := Nat.pow_pos (by decide)
  exact ⟨fun e => by rw [e] at h1; simp at h1; omega, fun e => by rw [e] at h2; simp at h2; omega⟩

set_option maxHeartbeats 1600000 in
theorem isComma_impl (w : World) (d wd : Int) (vm vp : Value) (m p : List ByteArray) (pat : ByteArray) (mx : Int) (hm : RdS w vm m) (hp : RdS w vp p) (hs : pat.size ≤ maxLen) (hmx : w.cell? ⟨0, 0, none⟩ = some (.int .i64 mx)) (sm : ∀ s ∈ m, s.size ≤ 4000000) (sp : ∀ s ∈ p, s.size ≤ 4000000) (lm : m.length ≤ 4000000) (lp : p.length ≤ 4000000) :
    Calls Try.prog 53 #[.agg #[.int .i64 d, .int .i64 wd, vm, vp], .string pat] w fun e w' => e = .returned (.bool (icB d wd m p pat)) ∧ Below w.heap.size w w' := by
  obtain ⟨A1, n1, c1, rfl⟩ := rds_sh2 hm
  obtain ⟨A2, n2, c2, rfl⟩ := rds_sh2 hp
  have HB0 : Hid (Below w.heap.size w (w.alloc (.cells #[.int .i64 d, .int .i64 wd, .slice A1 n1 c1, .slice A2 n2 c2] 61))) := (Below.refl _ _).alloc (Nat.le_refl _) _
  have HK0 : Hid (Bk (w.alloc (.cells #[.int .i64 d, .int .i64 wd, .slice A1 n1 c1, .slice A2 n2 c2] 61)) w.heap.size (bcV d wd (.slice A1 n1 c1) (.slice A2 n2 c2))) := Bk.new w (bcV d wd (.slice A1 n1 c1) (.slice A2 n2 c2)) 61 _ rfl
  have HV := Lib.hid (validBlockCode_impl _ d wd (.slice A1 n1 c1) (.slice A2 n2 c2) m p (hm.keep HB0.out) (hp.keep HB0.out) sm sp lp)
  have HIB := Lib.hid (fun W => isBits_any pat W hs)
  have HS : (pat.size : Int) ≤ 9223372036854775807 := by unfold maxLen at hs; omega
  have HZ0 : Hid (0 < w.heap.size) := by
    show 0 < _
    obtain ⟨o, ho, -⟩ := cells_of_cell hmx
    exact (Array.getElem?_eq_some_iff.1 ho).1
  have HMX := Lib.hid hmx
  have HM := Lib.hid hm
  have HP := Lib.hid hp
  clear hm hp sm sp hmx hs
  cases hok : bcOk d wd m p
  · have HE : Hid (icB d wd m p pat = false) := by show _ = _; unfold icB; rw [hok]; rfl
    rw [hok] at HV
    clear hok
    go_enter Try.func53, Try.ntmps53
    go_wp2_with fail
    refine HV.out.mono ?_; rintro e w1 ⟨rfl, hb1⟩
    have HB1 := Lib.hid (HB0.out.trans (hb1.mono HB0.out.size))
    clear hb1
    go_wp2_with fail
    go_ret
    exact ⟨ret_bool HE.out.symm, HB1.out⟩
  · rw [hok] at HV
    have hnum := (bcOk_nums hok).1
    have hne := bcOk_ne hok
    have hwb : -9223372036854775808 ≤ wd ∧ wd ≤ 12 := by omega
    obtain ⟨hwb0, hwb1⟩ := hwb
    have HCO := Lib.hid (fun W hm hp hp4 h0 => canContain_any W d wd A1 A2 n1 n2 c1 c2 m p pat mx hm hp hok hp4 h0 lm lp)
    have hwp : 0 ≤ wd := by omega
    by_cases hbt : 1 ≤ (pat.size : Int) ∧ (pat.size : Int) ≤ wd + 1
    · obtain ⟨t1, t2⟩ := hbt
      have hpn : pat.data.toList ≠ [] := by
        intro e
        have h := (show pat.data.toList.length = pat.size by simp)
        rw [e] at h
        have h' : (0 : Nat) = pat.size := h
        omega
      have hpm : pcB m p pat.data.toList = mcB m p pat.data.toList := pc_mc pat.data.toList hpn hne.1 hne.2
      have h4 : pat.size ≤ 400 := by omega
      have HBT := Lib.hid (fun W => btw_yes (pat.size : Int) 1 (wd + 1) W t1 t2)
      have HCW := Lib.hid (fun W hm hp h0 => HCO.out W hm hp h4 h0)
      have HEB : Hid (isB pat.data.toList = false → icB d wd m p pat = false) := by show _ → _; intro h; unfold icB; rw [h]; simp
      have HET : Hid (isB pat.data.toList = true → icB d wd m p pat = !pcB m p pat.data.toList) := by show _ → _; intro h; unfold icB; rw [h, hok, decide_eq_true ⟨t1, t2⟩, hpm]; simp
      clear hpn hpm hne hnum hok HCO
      generalize isB pat.data.toList = b at *
      cases b
      · go_enter Try.func53, Try.ntmps53
        go_wp2_with fail
        refine HV.out.mono ?_; rintro e w1 ⟨rfl, hb1⟩
        have HB1 := Lib.hid (HB0.out.trans (hb1.mono HB0.out.size))
        obtain ⟨q0, q1, q2, q3⟩ := bk_all (HK0.out.keep hb1)
        clear hb1
        go_wp2_with fail
        refine (HBT.out _).mono ?_; rintro e w2 ⟨rfl, rfl⟩
        go_wp2_with fail
        refine (HIB.out _).mono ?_; rintro e w3 ⟨rfl, hb3⟩
        have HB3 := Lib.hid (HB1.out.trans (hb3.mono HB1.out.size))
        clear hb3
        go_wp2_with fail
        go_ret
        exact ⟨ret_bool (HEB.out trivial).symm, HB3.out⟩
      · generalize pcB m p pat.data.toList = R at *
        go_enter Try.func53, Try.ntmps53
        go_wp2_with fail
        refine HV.out.mono ?_; rintro e w1 ⟨rfl, hb1⟩
        have HB1 := Lib.hid (HB0.out.trans (hb1.mono HB0.out.size))
        have K1 := Lib.hid (HK0.out.keep hb1)
        obtain ⟨q0, q1, q2, q3⟩ := bk_all K1.out
        clear hb1
        go_wp2_with fail
        refine (HBT.out _).mono ?_; rintro e w2 ⟨rfl, rfl⟩
        go_wp2_with fail
        refine (HIB.out _).mono ?_; rintro e w3 ⟨rfl, hb3⟩
        have HB3 := Lib.hid (HB1.out.trans (hb3.mono HB1.out.size))
        clear q0 q1 q2 q3
        obtain ⟨q0, q1, q2, q3⟩ := bk_all (K1.out.keep hb3)
        clear hb3
        go_wp2_with fail
        refine (HCW.out _ (HM.out.keep HB3.out) (HP.out.keep HB3.out) ((HB3.out.cell (p := ⟨0, 0, none⟩) HZ0.out).trans HMX.out)).mono ?_; rintro e w4 ⟨rfl, hb4⟩
        have HB4 := Lib.hid (HB3.out.trans (hb4.mono HB3.out.size))
        clear hb4
        cases R
        all_goals go_wp2_with fail
        all_goals go_ret
        all_goals exact ⟨ret_bool (HET.out trivial).symm, HB4.out⟩
    · have HBT := Lib.hid (fun W => btw_no (pat.size : Int) 1 (wd + 1) W hbt)
      have HE : Hid (icB d wd m p pat = false) := by show _ = _; unfold icB; rw [decide_eq_false hbt]; simp
      clear hbt hne hnum hok HCO
      go_enter Try.func53, Try.ntmps53
      go_wp2_with fail
      refine HV.out.mono ?_; rintro e w1 ⟨rfl, hb1⟩
      have HB1 := Lib.hid (HB0.out.trans (hb1.mono HB0.out.size))
      obtain ⟨q0, q1, q2, q3⟩ := bk_all (HK0.out.keep hb1)
      clear hb1
      go_wp2_with fail
      refine (HBT.out _).mono ?_; rintro e w2 ⟨rfl, rfl⟩
      go_wp2_with fail
      go_ret
      exact ⟨ret_bool HE.out.symm, HB1.out⟩
end Go.Proofs.Ytijmfienaoeboab
