/- The model's IsComma: its contract. -/
import Derived.Test.YtijmfienaoeboabCmS
namespace Go.Proofs.Ytijmfienaoeboab
open Go Go.RowKit
set_option linter.unusedVariables false

set_option maxHeartbeats 1600000 in
theorem isComma_spec (w : World) (d wd : Int) (vm vp : Value) (m p : List ByteArray) (pat : ByteArray) (hm : RdS w vm m) (hp : RdS w vp p) (hs : pat.size ≤ maxLen) (sm : ∀ s ∈ m, s.size ≤ 4000000) (sp : ∀ s ∈ p, s.size ≤ 4000000) (lm : m.length ≤ 4000000) (lp : p.length ≤ 4000000) :
    Calls Try.prog 51 #[.agg #[.int .i64 d, .int .i64 wd, vm, vp], .string pat] w fun e w' => e = .returned (.bool (icB d wd m p pat)) ∧ Below w.heap.size w w' := by
  obtain ⟨A1, n1, c1, rfl⟩ := rds_sh2 hm
  obtain ⟨A2, n2, c2, rfl⟩ := rds_sh2 hp
  have HB0 : Hid (Below w.heap.size w (w.alloc (.cells #[.int .i64 d, .int .i64 wd, .slice A1 n1 c1, .slice A2 n2 c2] 61))) := (Below.refl _ _).alloc (Nat.le_refl _) _
  have HK0 : Hid (Bk (w.alloc (.cells #[.int .i64 d, .int .i64 wd, .slice A1 n1 c1, .slice A2 n2 c2] 61)) w.heap.size (bcV d wd (.slice A1 n1 c1) (.slice A2 n2 c2))) := Bk.new w (bcV d wd (.slice A1 n1 c1) (.slice A2 n2 c2)) 61 _ rfl
  have HV := Lib.hid (l03Is_any _ w.heap.size d wd _ _ m p HK0.out (hm.keep HB0.out) (hp.keep HB0.out) sm sp)
  have HIB := Lib.hid (fun W => l01Bits_any pat W hs)
  have HS : (pat.size : Int) ≤ 9223372036854775807 := by unfold maxLen at hs; omega
  have HM := Lib.hid (hm.keep HB0.out)
  have HP := Lib.hid (hp.keep HB0.out)
  clear hm hp sm sp hs
  cases hok : bcOk d wd m p
  · have HE : Hid (icB d wd m p pat = false) := by show _ = _; unfold icB; rw [hok]; rfl
    rw [hok] at HV
    clear hok
    go_enter Try.func51, Try.ntmps51
    go_wp2_with fail
    refine HV.out.mono ?_; rintro e w1 ⟨rfl, q, rfl⟩
    go_wp2_with fail
    go_ret
    exact ⟨ret_bool HE.out.symm, below_drewN HB0.out q⟩
  · rw [hok] at HV
    have hnum := (bcOk_nums hok).1
    obtain ⟨hwb0, hwb1⟩ : 2 ≤ wd ∧ wd ≤ 12 := by omega
    have HOC := Lib.hid (fun q h4 hpn => l03Occurs_any _ w.heap.size d wd A1 A2 n1 n2 c1 c2 m p pat (HK0.out.drewN q) (HM.out.drewN q) (HP.out.drewN q) hok h4 hpn lm lp)
    have HEB : Hid (isB pat.data.toList = false → icB d wd m p pat = false) := by show _ → _; intro h; unfold icB; rw [h]; simp
    have HEN : Hid (¬ (1 ≤ (pat.size : Int) ∧ (pat.size : Int) ≤ wd + 1) → icB d wd m p pat = false) := by show _ → _; intro h; unfold icB; rw [decide_eq_false h]; simp
    have HET : Hid (isB pat.data.toList = true → (1 ≤ (pat.size : Int) ∧ (pat.size : Int) ≤ wd + 1) → icB d wd m p pat = !mcB m p pat.data.toList) := by show _ → _ → _; intro h h2; unfold icB; rw [h, hok, decide_eq_true h2]; simp
    have hpe : pat.data.toList.length = pat.size := by simp
    obtain ⟨q0, q1, q2, q3⟩ : _ ∧ _ ∧ _ ∧ _ := ⟨HK0.out.c 0 _ rfl, HK0.out.c 1 _ rfl, HK0.out.c 2 _ rfl, HK0.out.c 3 _ rfl⟩
    clear hnum hok
    cases hb : isB pat.data.toList
    · rw [hb] at HIB
      have HE := Lib.hid (HEB.out hb)
      clear hb
      go_enter Try.func51, Try.ntmps51
      go_wp2_with fail
      refine HV.out.mono ?_; rintro e w1 ⟨rfl, q, rfl⟩
      go_wp2_with fail
      refine (HIB.out _).mono ?_; rintro e w2 ⟨rfl, rfl⟩
      go_wp2_with fail
      go_ret
      exact ⟨ret_bool HE.out.symm, below_drewN HB0.out q⟩
    · rw [hb] at HIB
      by_cases hz : pat.size = 0
      · have HE := Lib.hid (HEN.out (by omega))
        have hz' : (pat.size : Int) = 0 := by omega
        have hzb : ((pat.size : Int) == 0) = true := by rw [hz']; rfl
        clear hb
        go_enter Try.func51, Try.ntmps51
        go_wp2_with fail
        refine HV.out.mono ?_; rintro e w1 ⟨rfl, q, rfl⟩
        go_wp2_with fail
        refine (HIB.out _).mono ?_; rintro e w2 ⟨rfl, rfl⟩
        go_wp2_with fail
        go_ret
        exact ⟨ret_bool HE.out.symm, below_drewN HB0.out q⟩
      · have hzb : ((pat.size : Int) == 0) = false := by simpa using hz
        by_cases hgt : (pat.size : Int) ≤ wd + 1
        · have h12 : 1 ≤ (pat.size : Int) ∧ (pat.size : Int) ≤ wd + 1 := by omega
          have HE := Lib.hid (HET.out hb h12)
          have hpn : pat.data.toList ≠ [] := by
            intro e
            rw [e] at hpe
            have h' : (0 : Nat) = pat.size := hpe
            omega
          have HO := Lib.hid (fun q => HOC.out q (by omega) hpn)
          clear hb hpn hpe HOC HET HEN HEB
          generalize mcB m p pat.data.toList = R at *
          cases R
          all_goals go_enter Try.func51, Try.ntmps51
          all_goals go_wp2_with fail
          all_goals (refine HV.out.mono ?_; rintro e w1 ⟨rfl, q, rfl⟩)
          all_goals go_wp2_with fail
          all_goals (refine (HIB.out _).mono ?_; rintro e w2 ⟨rfl, rfl⟩)
          all_goals go_wp2_with fail
          all_goals (refine (HO.out q).mono ?_; rintro e w3 ⟨rfl, q', rfl⟩)
          all_goals go_wp2_with fail
          all_goals go_ret
          all_goals exact ⟨ret_bool HE.out.symm, below_drewN HB0.out (q + q')⟩
        · have HE := Lib.hid (HEN.out (by omega))
          clear hb
          go_enter Try.func51, Try.ntmps51
          go_wp2_with fail
          refine HV.out.mono ?_; rintro e w1 ⟨rfl, q, rfl⟩
          go_wp2_with fail
          refine (HIB.out _).mono ?_; rintro e w2 ⟨rfl, rfl⟩
          go_wp2_with fail
          go_ret
          exact ⟨ret_bool HE.out.symm, below_drewN HB0.out q⟩
end Go.Proofs.Ytijmfienaoeboab
