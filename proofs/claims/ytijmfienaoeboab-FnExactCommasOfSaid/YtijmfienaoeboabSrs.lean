/- The model's SumRange. -/
import Derived.Test.YtijmfienaoeboabSrp
import Derived.Test.YtijmfienaoeboabBi
import Derived.Test.YtijmfienaoeboabBl
namespace Go.Proofs.Ytijmfienaoeboab
open Go Go.RowKit
set_option linter.unusedVariables false

theorem lst_minus (w : World) (b : Nat) (d wd : Int) (vm vp : Value) (hc : Bk w b (bcV d wd vm vp)) :
    Calls Try.prog 118 #[.pointer (some ⟨b, 0, none⟩), .int .i64 (-1)] w fun e w' => e = .returned vm ∧ w = w' := by
  have c2 := hc.c 2 _ rfl
  clear hc
  go_enter Try.func118, Try.ntmps118
  go_wp2_with fail
  go_ret
  exact ⟨rfl, rfl⟩
theorem lst_plus (w : World) (b : Nat) (d wd : Int) (vm vp : Value) (hc : Bk w b (bcV d wd vm vp)) :
    Calls Try.prog 118 #[.pointer (some ⟨b, 0, none⟩), .int .i64 1] w fun e w' => e = .returned vp ∧ w = w' := by
  have c3 := hc.c 3 _ rfl
  clear hc
  go_enter Try.func118, Try.ntmps118
  go_wp2_with fail
  go_ret
  exact ⟨rfl, rfl⟩
theorem l00Min_any (a b : Int) (w : World) :
    Calls Try.prog 117 #[.int .i64 a, .int .i64 b] w fun e w' => e = .returned (.int .i64 (min a b)) ∧ w = w' := by
  by_cases h : a < b
  · have HE : Hid (min a b = a) := by show _ = _; omega
    go_enter Try.func117, Try.ntmps117
    go_wp2_with fail
    go_ret
    exact ⟨ret_int HE.out.symm, rfl⟩
  · have HE : Hid (min a b = b) := by show _ = _; omega
    go_enter Try.func117, Try.ntmps117
    go_wp2_with fail
    go_ret
    exact ⟨ret_int HE.out.symm, rfl⟩
theorem l00Max_any (a b : Int) (w : World) :
    Calls Try.prog 123 #[.int .i64 a, .int .i64 b] w fun e w' => e = .returned (.int .i64 (max a b)) ∧ w = w' := by
  by_cases h : a > b
  · have HE : Hid (max a b = a) := by show _ = _; omega
    go_enter Try.func123, Try.ntmps123
    go_wp2_with fail
    go_ret
    exact ⟨ret_int HE.out.symm, rfl⟩
  · have HE : Hid (max a b = b) := by show _ = _; omega
    go_enter Try.func123, Try.ntmps123
    go_wp2_with fail
    go_ret
    exact ⟨ret_int HE.out.symm, rfl⟩
theorem ret_iibS {x y a b : Int} {c d : Bool} (h : x = y) (h1 : a = b) (h2 : c = d) : Ending.returned (.tuple #[.int .i64 x, .int .i64 a, .bool c]) = .returned (.tuple #[.int .i64 y, .int .i64 b, .bool d]) := by rw [h, h1, h2]
theorem isB_take (s : ByteArray) (h : isB s.data.toList = true) (k : Nat) : isB (s.data.toList.take k) = true := by
  obtain ⟨h1, h2⟩ := isB_parts h
  unfold isB
  have h3 := List.length_take_le' k s.data.toList
  rw [inR_take 48 49 s k h2, decide_eq_true (by omega)]; rfl

set_option maxRecDepth 100000 in
set_option maxHeartbeats 2000000 in
theorem sumRange_spec (w : World) (d wd : Int) (vm vp : Value) (m p : List ByteArray) (hm : RdS w vm m) (hp : RdS w vp p) (sm : ∀ s ∈ m, s.size ≤ 4000000) (sp : ∀ s ∈ p, s.size ≤ 4000000) (lm : m.length ≤ 4000000) (lp : p.length ≤ 4000000) :
    Calls Try.prog 59 #[.agg #[.int .i64 d, .int .i64 wd, vm, vp]] w fun e w' => e = .returned (.tuple #[.int .i64 (srLo d wd m p), .int .i64 (srHi d wd m p), .bool (bcOk d wd m p)]) ∧ Below w.heap.size w w' := by
  obtain ⟨A1, n1, c1, rfl⟩ := rds_sh2 hm
  obtain ⟨A2, n2, c2, rfl⟩ := rds_sh2 hp
  have HB : Hid (Below w.heap.size w (w.alloc (.cells #[.int .i64 d, .int .i64 wd, .slice A1 n1 c1, .slice A2 n2 c2] 61))) := (Below.refl _ _).alloc (Nat.le_refl _) _
  have HK : Hid (Bk (w.alloc (.cells #[.int .i64 d, .int .i64 wd, .slice A1 n1 c1, .slice A2 n2 c2] 61)) w.heap.size (bcV d wd (.slice A1 n1 c1) (.slice A2 n2 c2))) := Bk.new w (bcV d wd (.slice A1 n1 c1) (.slice A2 n2 c2)) 61 _ rfl
  have HC := Lib.hid (l03Is_any _ w.heap.size d wd _ _ m p HK.out (hm.keep HB.out) (hp.keep HB.out) sm sp)
  have HM := Lib.hid (hm.keep HB.out)
  have HP := Lib.hid (hp.keep HB.out)
  clear hm hp sm sp
  cases hok : bcOk d wd m p
  · have HE : Hid (srLo d wd m p = 0 ∧ srHi d wd m p = 0) := by show _ ∧ _; unfold srLo srHi; rw [hok]; exact ⟨rfl, rfl⟩
    rw [hok] at HC
    clear HM HP HK hok
    go_enter Try.func59, Try.ntmps59
    go_wp2_with fail
    refine HC.out.mono ?_; rintro e w' ⟨rfl, q, rfl⟩
    go_wp2_with fail
    refine bodyPost_ret (results_tmp3 rfl _ _ _) rfl ?_
    exact ⟨ret_iibS HE.out.1.symm HE.out.2.symm rfl, below_drewN HB.out q⟩
  · obtain ⟨hw12, om, op⟩ := bcOk_parts hok
    have HE : Hid (srLo d wd m p = loL 1 p (loL (-1) m (-1)) ∧ srHi d wd m p = hiL 1 p (hiL (-1) m 1)) := by show _ ∧ _; unfold srLo srHi; rw [hok]; exact ⟨rfl, rfl⟩
    rw [hok] at HC
    have HOM := Lib.hid om
    have HOP := Lib.hid op
    clear hok om op
    go_enter Try.func59, Try.ntmps59
    go_wp2_with fail
    refine HC.out.mono ?_; rintro e w' ⟨rfl, q, rfl⟩
    have HB2 := Lib.hid (below_drewN HB.out q)
    have HM2 := Lib.hid (HM.out.drewN q)
    have HP2 := Lib.hid (HP.out.drewN q)
    have HK2 : Hid (Bk ((w.alloc (.cells #[.int .i64 d, .int .i64 wd, .slice A1 n1 c1, .slice A2 n2 c2] 61)).drewN q) w.heap.size (bcV d wd (.slice A1 n1 c1) (.slice A2 n2 c2))) := Bk.drewN HK.out q
    clear HB HM HP HK HC
    generalize (w.alloc (.cells #[.int .i64 d, .int .i64 wd, .slice A1 n1 c1, .slice A2 n2 c2] 61)).drewN q = W at *
    have sel : ∀ k : Nat, k < 2 → ∃ (s : Int) (A : Option Addr) (n c : Nat) (ws : List ByteArray) (lo hi : Int), s = 2 * (k : Int) - 1 ∧ (-1 ≤ s ∧ s ≤ 1) ∧
        (∀ W', W' = W → Calls Try.prog 118 #[.pointer (some ⟨w.heap.size, 0, none⟩), .int .i64 s] W' fun e w' => e = .returned (.slice A n c) ∧ W' = w') ∧
        RdS W (.slice A n c) ws ∧ ws.length = n ∧ n ≤ 4000000 ∧ (∀ x ∈ ws, isB x.data.toList = true ∧ x.size ≤ 12) ∧
        (if k = 0 then (-1 : Int) else if k = 1 then loL (-1) m (-1) else loL 1 p (loL (-1) m (-1))) = lo ∧ (if k = 0 then (1 : Int) else if k = 1 then hiL (-1) m 1 else hiL 1 p (hiL (-1) m 1)) = hi ∧
        (if k + 1 = 0 then (-1 : Int) else if k + 1 = 1 then loL (-1) m (-1) else loL 1 p (loL (-1) m (-1))) = loL s ws lo ∧ (if k + 1 = 0 then (1 : Int) else if k + 1 = 1 then hiL (-1) m 1 else hiL 1 p (hiL (-1) m 1)) = hiL s ws hi := by
      intro k hk
      rcases (show k = 0 ∨ k = 1 from by omega) with rfl | rfl
      · have := HM2.out
        obtain ⟨A, n, c, e, hl, -⟩ := this
        cases e
        exact ⟨-1, A1, n1, c1, m, -1, 1, rfl, by omega, fun W' e => by rw [e]; exact lst_minus W _ d wd _ _ HK2.out, HM2.out, hl, by omega, fun x hx => ⟨(wordOk_parts (HOM.out x hx)).1, (wordOk_bits (HOM.out x hx) hw12).2⟩, rfl, rfl, rfl, rfl⟩
      · have := HP2.out
        obtain ⟨A, n, c, e, hl, -⟩ := this
        cases e
        exact ⟨1, A2, n2, c2, p, _, _, rfl, by omega, fun W' e => by rw [e]; exact lst_plus W _ d wd _ _ HK2.out, HP2.out, hl, by omega, fun x hx => ⟨(wordOk_parts (HOP.out x hx)).1, (wordOk_bits (HOP.out x hx) hw12).2⟩, rfl, rfl, rfl, rfl⟩
    have SEL := Lib.hid sel
    clear sel HM2 HP2 HK2 HOM HOP
    go_wp2_with fail
    go_loop [5, 6, 7] (fun a b t => ∃ k : Nat, k ≤ 2 ∧ t = .int .i64 (2 * (k : Int) - 1) ∧ a = .int .i64 (if k = 0 then (-1 : Int) else if k = 1 then loL (-1) m (-1) else loL 1 p (loL (-1) m (-1))) ∧ b = .int .i64 (if k = 0 then (1 : Int) else if k = 1 then hiL (-1) m 1 else hiL 1 p (hiL (-1) m 1)))
      (fun _ _ t => (3 - intOf t).toNat)
    case atStart => exact ⟨0, by omega, rfl, rfl, rfl⟩
    case round =>
      obtain ⟨k, hk, rfl, rfl, rfl⟩ := hrel
      by_cases hlt : k < 2
      · obtain ⟨s, A, n, c, ws, lo, hi, es, hs, hl, hr, hn, hn4, hb, e1, e2, e3, e4⟩ := SEL.out k hlt
        rw [e1, e2, ← es]
        have HL := Lib.hid (hl _ rfl)
        have HR := Lib.hid hr
        have HN := Lib.hid hn
        have HBB := Lib.hid hb
        have HE3 := Lib.hid e3
        have HE4 := Lib.hid e4
        have HES := Lib.hid es
        obtain ⟨hs0, hs1⟩ := hs
        clear SEL hl hr hn hb e1 e2 e3 e4 es
        have HLT := Lib.hid hlt
        clear hlt hk
        go_wp2_with fail
        refine HL.out.mono ?_; rintro e w' ⟨rfl, rfl⟩
        clear HL
        go_wp2_with fail
        go_loop [5, 6, 9] (fun a b t => ∃ i : Nat, i ≤ n ∧ t = .int .i64 i ∧ a = .int .i64 (loL s (ws.take i) lo) ∧ b = .int .i64 (hiL s (ws.take i) hi)) (fun _ _ t => n - (intOf t).toNat)
        case atStart => exact ⟨0, by omega, rfl, by simp [loL], by simp [hiL]⟩
        case round =>
          obtain ⟨i, hi0, rfl, rfl, rfl⟩ := hrel
          by_cases hlt2 : i < n
          · have hil : i < ws.length := by rw [HN.out]; exact hlt2
            obtain ⟨A, nn, cc, e, -, -, -, hcs⟩ := HR.out
            cases e
            obtain ⟨g, o, rfl, hgl, hc⟩ := hcs (by omega)
            have hc0 := hc i hil
            have hx0 : (0 : Int) ≤ (i : Int) := by omega
            have hx1 : (i : Int) < (n : Int) := by omega
            obtain ⟨hyb, hy12⟩ := HBB.out _ (List.getElem_mem hil)
            have HT1 := Lib.hid (loL_take s ws lo i hil)
            have HT2 := Lib.hid (hiL_take s ws hi i hil)
            clear hc hcs
            generalize ws[i] = y at *
            generalize loL s (ws.take i) lo = lo1 at *
            generalize hiL s (ws.take i) hi = hi1 at *
            have HYB := Lib.hid hyb
            have HI1 := Lib.hid hlt2
            clear hyb hlt2 hil
            go_wp2_with fail
            go_loop [5, 6, 10] (fun a b t => ∃ j : Nat, j ≤ y.size ∧ t = .int .i64 ((j : Int) + 1) ∧ a = .int .i64 (loW s y.data.toList j lo1) ∧ b = .int .i64 (hiW s y.data.toList j hi1)) (fun _ _ t => (y.size + 1 - (intOf t).toNat))
            case atStart => exact ⟨0, by omega, rfl, rfl, rfl⟩
            case round =>
              obtain ⟨j, hj, rfl, rfl, rfl⟩ := hrel
              by_cases hlt3 : j < y.size
              · have hbx : isB (y.extract 0 (j + 1)).data.toList = true := by
                  have e : (y.extract 0 (j + 1)).data.toList = y.data.toList.take (j + 1) := by simp [ByteArray.data_extract]
                  rw [e]; exact isB_take _ HYB.out _
                have hdd : disL (y.extract 0 (j + 1)).data.toList = disL (y.data.toList.take (j + 1)) := by
                  have e : (y.extract 0 (j + 1)).data.toList = y.data.toList.take (j + 1) := by simp [ByteArray.data_extract]
                  rw [e]
                have HDI := Lib.hid (fun W => l03Disparity_bits (y.extract 0 (j + 1)) W hbx)
                have hdb := disL_bd (y.data.toList.take (j + 1))
                have hdl := List.length_take_le (j + 1) y.data.toList
                obtain ⟨D0, D1⟩ : -12 ≤ disL (y.data.toList.take (j + 1)) ∧ disL (y.data.toList.take (j + 1)) ≤ 12 := by omega
                have HW1 : Hid (loW s y.data.toList (j + 1) lo1 = min (loW s y.data.toList j lo1) (s + disL (y.data.toList.take (j + 1)))) := rfl
                have HW2 : Hid (hiW s y.data.toList (j + 1) hi1 = max (hiW s y.data.toList j hi1) (s + disL (y.data.toList.take (j + 1)))) := rfl
                rw [hdd] at HDI
                clear hbx hdd hdb hdl
                generalize disL (y.data.toList.take (j + 1)) = D at *
                generalize loW s y.data.toList j lo1 = a1 at *
                generalize hiW s y.data.toList j hi1 = b1 at *
                go_wp2_with fail
                refine (HDI.out _).mono ?_; rintro e w' ⟨rfl, rfl⟩
                go_wp2_with fail
                refine (l00Min_any _ _ _).mono ?_; rintro e w' ⟨rfl, rfl⟩
                go_wp2_with fail
                refine (l00Max_any _ _ _).mono ?_; rintro e w' ⟨rfl, rfl⟩
                go_wp2_with fail
                go_round
                case rel => exact ⟨j + 1, by omega, by go_num, by rw [HW1.out], by rw [HW2.out]⟩
                case measure => simp [intOf]; omega
              · obtain rfl : j = y.size := by omega
                go_wp2_with fail
                go_round
                case rel => exact ⟨i + 1, HI1.out, by go_num, by rw [HT1.out], by rw [HT2.out]⟩
                case measure => simp [intOf]; omega
          · obtain rfl : i = n := by omega
            have HF1 : Hid (loL s ws lo = loL s (ws.take i) lo) := by show _ = _; rw [List.take_of_length_le (by rw [HN.out]; exact Nat.le_refl _)]
            have HF2 : Hid (hiL s ws hi = hiL s (ws.take i) hi) := by show _ = _; rw [List.take_of_length_le (by rw [HN.out]; exact Nat.le_refl _)]
            go_wp2_with fail
            go_round
            case rel => exact ⟨k + 1, HLT.out, by rw [HES.out]; go_num, by rw [HE3.out, HF1.out], by rw [HE4.out, HF2.out]⟩
            case measure => simp [intOf]; omega
      · obtain rfl : k = 2 := by omega
        go_wp2_with fail
        refine bodyPost_ret (results_tmp3 rfl _ _ _) rfl ?_
        exact ⟨ret_iibS HE.out.1.symm HE.out.2.symm rfl, HB2.out⟩
end Go.Proofs.Ytijmfienaoeboab
