/- Both ReadLevels. -/
import Derived.Test.YtmhdjimdhcephaaLvM
import Derived.Test.YtmhdjimdhcephaaLvO
namespace Go.Proofs.Ytmhdjimdhcephaa
open Go Go.RowKit
set_option linter.unusedVariables false

def rdT (kind : Int) (l : List Int) : ByteArray := ⟨(rdV kind l).toArray⟩
theorem ret_sbL {a b : ByteArray} {c d : Bool} (h : a = b) (h2 : c = d) : Ending.returned (.tuple #[.string a, .bool c]) = .returned (.tuple #[.string b, .bool d]) := by rw [h, h2]
theorem rdT_no {kind : Int} {l : List Int} (h : rdOk kind l = false) : rdT kind l = ⟨#[]⟩ := by unfold rdT rdV; rw [h]; rfl
theorem wd_two {κ : Nat} : wdK κ = 1 ∨ wdK κ = 2 := by have := wdK_bd κ; omega
set_option maxRecDepth 100000 in
set_option maxHeartbeats 1000000 in
theorem l10Whole_any (kind : Int) (w : World) (v : Value) (l : List Int) (h : Rd w v l) :
    Calls Try.prog 60 #[.int .i64 kind, v] w fun e w' => e = .returned (.bool (rdOk kind l)) ∧ w = w' := by
  have HK := Lib.hid (l10Kind_any kind w)
  have HI := Lib.hid (l10Is_any w v l h)
  have hlen := h.len
  unfold maxLen at hlen
  obtain ⟨A, cp, rfl⟩ := rd_sh h
  clear h
  cases g0 : kdB kind
  · have e : rdOk kind l = false := (rd_no (.inl (by unfold rmB; rw [g0]; rfl))).1
    rw [e]
    rw [g0] at HK
    clear g0 e HI
    go_enter Try.func60, Try.ntmps60
    go_wp2_with fail
    refine HK.out.mono ?_; rintro e w' ⟨rfl, rfl⟩
    go_wp2_with fail
    go_ret
    exact ⟨ret_bool (by first | rfl | exact decide_eq_false (by omega)), rfl⟩
  cases g1 : lvB l
  · have e : rdOk kind l = false := (rd_no (.inl (by unfold rmB; rw [g0, g1]; rfl))).1
    rw [e]
    rw [g0] at HK
    rw [g1] at HI
    clear g0 g1 e
    go_enter Try.func60, Try.ntmps60
    go_wp2_with fail
    refine HK.out.mono ?_; rintro e w' ⟨rfl, rfl⟩
    go_wp2_with fail
    refine HI.out.mono ?_; rintro e w' ⟨rfl, rfl⟩
    go_wp2_with fail
    go_ret
    exact ⟨ret_bool (by first | rfl | exact decide_eq_false (by omega)), rfl⟩
  obtain ⟨κ, rfl, hκ, hn⟩ := kd_nat g0
  have HD := Lib.hid (fun W => l10Double_any κ hκ W)
  have hE : rdOk (κ : Int) l = (decide (l.length ≤ 400 * wdK κ) && decide (l.length % wdK κ = 0)) := by
    unfold rdOk rmB; rw [g0, g1, hn]; rfl
  rw [hE]
  rw [g0] at HK
  rw [g1] at HI
  clear g0 g1 hE hn hκ
  rcases wd_two (κ := κ) with hT | hT
  · rw [hT] at HD ⊢
    have HD' : Hid (∀ W : World, Calls Try.prog 68 #[.int .i64 κ] W fun e w' => e = .returned (.bool false) ∧ W = w') := HD.out
    have e2 : decide (l.length % 1 = 0) = true := decide_eq_true (by omega)
    rw [e2, Nat.mul_one]
    clear HD e2 hT
    by_cases hl : l.length ≤ 400
    · have e3 : (decide (l.length ≤ 400) && true) = true := by rw [decide_eq_true hl]; rfl
      rw [e3]
      have hl2 : (l.length : Int) ≤ 400 := by omega
      clear e3 hl
      generalize l.length = n at *
      go_enter Try.func60, Try.ntmps60
      go_wp2_with fail
      refine HK.out.mono ?_; rintro e w' ⟨rfl, rfl⟩
      go_wp2_with fail
      refine HI.out.mono ?_; rintro e w' ⟨rfl, rfl⟩
      go_wp2_with fail
      refine (HD'.out _).mono ?_; rintro e w' ⟨rfl, rfl⟩
      go_wp2_with fail
      go_ret
      exact ⟨ret_bool (by first | rfl | exact decide_eq_false (by omega)), rfl⟩
    · have e3 : (decide (l.length ≤ 400) && true) = false := by rw [decide_eq_false hl]; rfl
      rw [e3]
      have hl2 : ¬ (l.length : Int) ≤ 400 := by omega
      clear e3 hl
      generalize l.length = n at *
      go_enter Try.func60, Try.ntmps60
      go_wp2_with fail
      refine HK.out.mono ?_; rintro e w' ⟨rfl, rfl⟩
      go_wp2_with fail
      refine HI.out.mono ?_; rintro e w' ⟨rfl, rfl⟩
      go_wp2_with fail
      refine (HD'.out _).mono ?_; rintro e w' ⟨rfl, rfl⟩
      go_wp2_with fail
      refine (HD'.out _).mono ?_; rintro e w' ⟨rfl, rfl⟩
      go_wp2_with fail
      go_ret
      exact ⟨ret_bool (by first | rfl | exact decide_eq_false (by omega)), rfl⟩
  · rw [hT] at HD ⊢
    have HD' : Hid (∀ W : World, Calls Try.prog 68 #[.int .i64 κ] W fun e w' => e = .returned (.bool true) ∧ W = w') := HD.out
    clear HD hT
    have hmt : (l.length : Int).tmod 2 = ((l.length % 2 : Nat) : Int) := by
      rw [Int.tmod_eq_emod_of_nonneg (by omega)]; omega
    have hm0 : (l.length : Int) % 2 = ((l.length % 2 : Nat) : Int) := by omega
    have hw : IntKind.i64.wrap ((l.length % 2 : Nat) : Int) = ((l.length % 2 : Nat) : Int) := IntWalk.i64_in _ (by omega)
    by_cases hm : l.length % 2 = 0
    · rw [hm] at hmt hm0 hw ⊢
      by_cases hl : l.length ≤ 800
      · have e3 : (decide (l.length ≤ 400 * 2) && decide (0 = 0)) = true := by rw [decide_eq_true (show l.length ≤ 400 * 2 by omega)]; rfl
        rw [e3]
        have hl2 : (l.length : Int) ≤ 800 := by omega
        clear e3 hl hm
        generalize l.length = n at *
        go_enter Try.func60, Try.ntmps60
        go_wp2_with fail
        refine HK.out.mono ?_; rintro e w' ⟨rfl, rfl⟩
        go_wp2_with fail
        refine HI.out.mono ?_; rintro e w' ⟨rfl, rfl⟩
        go_wp2_with fail
        refine (HD'.out _).mono ?_; rintro e w' ⟨rfl, rfl⟩
        go_wp2_with fail
        refine (HD'.out _).mono ?_; rintro e w' ⟨rfl, rfl⟩
        go_wp2_with fail
        go_ret
        exact ⟨ret_bool (by first | rfl | exact decide_eq_false (by omega)), rfl⟩
      · have e3 : (decide (l.length ≤ 400 * 2) && decide (0 = 0)) = false := by rw [decide_eq_false (show ¬ l.length ≤ 400 * 2 by omega)]; rfl
        rw [e3]
        have hl2 : ¬ (l.length : Int) ≤ 800 := by omega
        clear e3 hl hm
        generalize l.length = n at *
        go_enter Try.func60, Try.ntmps60
        go_wp2_with fail
        refine HK.out.mono ?_; rintro e w' ⟨rfl, rfl⟩
        go_wp2_with fail
        refine HI.out.mono ?_; rintro e w' ⟨rfl, rfl⟩
        go_wp2_with fail
        refine (HD'.out _).mono ?_; rintro e w' ⟨rfl, rfl⟩
        go_wp2_with fail
        refine (HD'.out _).mono ?_; rintro e w' ⟨rfl, rfl⟩
        go_wp2_with fail
        go_ret
        exact ⟨ret_bool (by first | rfl | exact decide_eq_false (by omega)), rfl⟩
    · have e3 : (decide (l.length ≤ 400 * 2) && decide (l.length % 2 = 0)) = false := by rw [decide_eq_false hm]; simp
      rw [e3]
      have hz : (((l.length % 2 : Nat) : Int) == 0) = false := beq_f (by omega)
      clear e3 hm
      generalize l.length % 2 = r at *
      generalize l.length = n at *
      go_enter Try.func60, Try.ntmps60
      go_wp2_with fail
      refine HK.out.mono ?_; rintro e w' ⟨rfl, rfl⟩
      go_wp2_with fail
      refine HI.out.mono ?_; rintro e w' ⟨rfl, rfl⟩
      go_wp2_with fail
      refine (HD'.out _).mono ?_; rintro e w' ⟨rfl, rfl⟩
      go_wp2_with fail
      refine (HD'.out _).mono ?_; rintro e w' ⟨rfl, rfl⟩
      go_wp2_with fail
      go_ret
      exact ⟨ret_bool (by first | rfl | exact decide_eq_false (by omega)), rfl⟩
theorem l10Read_any {κ : Nat} (hκ : κ ≤ 5) (w : World) (v : Value) (l : List Int) (hr : Rd w v l) (hl : l.length ≤ 800) (hm : l.length % wdK κ = 0) :
    Calls Try.prog 61 #[.int .i64 (κ : Int), v] w fun e w' => e = .returned (.string ⟨(rdK κ l (wdK κ) (l.length / wdK κ)).1.toArray⟩) ∧ Below w.heap.size w w' := by
  have hK : l.length = l.length / wdK κ * wdK κ := (Nat.div_mul_cancel (Nat.dvd_of_mod_eq_zero hm)).symm
  rcases six hκ with rfl | rfl | rfl | rfl | rfl | rfl
  · exact readM_0 w v l hr hl _ hK
  · exact readM_1 w v l hr hl _ hK
  · exact readM_2 w v l hr hl _ hK
  · exact readM_3 w v l hr hl _ hK
  · exact readM_4 w v l hr hl _ hK
  · exact readM_5 w v l hr hl _ hK
theorem rd_parts {kind : Int} {l : List Int} (h : rdOk kind l = true) : kdB kind = true ∧ lvB l = true ∧ l.length ≤ 400 * wdK kind.toNat ∧ l.length % wdK kind.toNat = 0 := by
  unfold rdOk rmB at h
  obtain ⟨h1, h2⟩ := Bool.and_eq_true_iff.1 h
  obtain ⟨h3, h4⟩ := Bool.and_eq_true_iff.1 h1
  obtain ⟨h5, h6⟩ := Bool.and_eq_true_iff.1 h4
  exact ⟨h3, h5, of_decide_eq_true h6, of_decide_eq_true h2⟩
set_option maxRecDepth 100000 in
theorem reads_spec (kind : Int) (w : World) (v : Value) (l : List Int) (h : Rd w v l) :
    Calls Try.prog 31 #[.int .i64 kind, v] w fun e w' => e = .returned (.tuple #[.string (rdT kind l), .bool (rdOk kind l)]) ∧ Below w.heap.size w w' := by
  have HW := Lib.hid (l10Whole_any kind w v l h)
  cases g0 : rdOk kind l
  · rw [rdT_no g0]
    rw [g0] at HW
    obtain ⟨A, cp, rfl⟩ := rd_sh h
    clear g0 h
    go_enter Try.func31, Try.ntmps31
    go_wp2_with fail
    refine HW.out.mono ?_; rintro e w' ⟨rfl, rfl⟩
    go_wp2_with fail
    go_ret2
    exact ⟨rfl, Below.refl _ _⟩
  · obtain ⟨g1, g2, g3, g4⟩ := rd_parts g0
    obtain ⟨κ, rfl, hκ, hn⟩ := kd_nat g1
    rw [hn] at g3 g4
    have HT : Hid (rdT (κ : Int) l = ⟨(rdK κ l (wdK κ) (l.length / wdK κ)).1.toArray⟩) := by show _ = _; unfold rdT rdV; rw [g0, hn]; rfl
    have HR := Lib.hid (l10Read_any hκ w v l h (lvB_parts g2).1 g4)
    rw [HT.out]
    rw [g0] at HW
    obtain ⟨A, cp, rfl⟩ := rd_sh h
    clear g0 g1 g2 g3 g4 hn hκ h HT
    generalize (rdK κ l (wdK κ) (l.length / wdK κ)).1.toArray = B at *
    go_enter Try.func31, Try.ntmps31
    go_wp2_with fail
    refine HW.out.mono ?_; rintro e w' ⟨rfl, rfl⟩
    go_wp2_with fail
    refine HR.out.mono ?_; rintro e w' ⟨rfl, hb⟩
    go_wp2_with fail
    go_ret2
    exact ⟨rfl, hb⟩
set_option maxRecDepth 100000 in
set_option maxHeartbeats 1000000 in
theorem reads_impl (kind : Int) (w : World) (v : Value) (l : List Int) (h : Rd w v l) :
    Calls Try.prog 32 #[.int .i64 kind, v] w fun e w' => e = .returned (.tuple #[.string (rdT kind l), .bool (rdOk kind l)]) ∧ Below w.heap.size w w' := by
  cases g0 : kdB kind
  · have e : rdOk kind l = false := (rd_no (.inl (by unfold rmB; rw [g0]; rfl))).1
    rw [rdT_no e, e]
    have HK := Lib.hid (wire_no kind g0 w)
    obtain ⟨A, cp, rfl⟩ := rd_sh h
    clear g0 e h
    go_enter Try.func32, Try.ntmps32
    go_wp2_with fail
    refine HK.out.mono ?_; rintro e w1 ⟨rfl, hb1⟩
    have HB := Lib.hid (hb1.alloc hb1.size (.cells #[.nilIface, .int .i64 0, .int .i64 0] 60))
    clear hb1
    go_wp2_with fail
    go_ret2
    exact ⟨rfl, HB.out⟩
  obtain ⟨κ, rfl, hκ, hn⟩ := kd_nat g0
  have HW := Lib.hid (fun W => wire_yes hκ W)
  have HWD := Lib.hid (fun W g e (h : WrE W g κ e) t1 t2 => width_any hκ W g e h t1 t2)
  have HRM := Lib.hid (fun W g e (h : WrE W g κ e) t1 t2 (hr : Rd W v l) => room_any hκ W g e h t1 t2 v l hr)
  have HT0 := Lib.hid (stE_tri κ)
  have hwd := wdK_bd κ
  have hlen := h.len
  unfold maxLen at hlen
  cases g1 : (lvB l && decide (l.length ≤ 400 * wdK κ))
  · have e : rdOk (κ : Int) l = false := (rd_no (.inl (by unfold rmB; rw [g0, hn, g1]; rfl))).1
    rw [rdT_no e, e]
    rw [g1] at HRM
    have HR := Lib.hid h
    obtain ⟨A, cp, rfl⟩ := rd_sh h
    clear g0 g1 e h hκ hn HWD
    go_enter Try.func32, Try.ntmps32
    go_wp2_with fail
    refine (HW.out _).mono ?_; rintro e w1 ⟨rfl, hb1⟩
    have X2 : Hid (WrE (w1.alloc (.cells #[.iface (kT κ) (.agg #[]), .int .i64 (stE κ).1, .int .i64 (stE κ).2] 60)) w1.heap.size κ (stE κ)) := Bk.new w1 [.iface (kT κ) (.agg #[]), .int .i64 (stE κ).1, .int .i64 (stE κ).2] 60 w1.heap.size rfl
    have B2 : Hid (Below w.heap.size w (w1.alloc (.cells #[.iface (kT κ) (.agg #[]), .int .i64 (stE κ).1, .int .i64 (stE κ).2] 60))) := hb1.alloc hb1.size _
    obtain ⟨W2, hW2⟩ : ∃ W2, W2 = w1.alloc (.cells #[.iface (kT κ) (.agg #[]), .int .i64 (stE κ).1, .int .i64 (stE κ).2] 60) := ⟨_, rfl⟩
    rw [← hW2] at X2 B2
    have HW2 := Lib.hid hW2
    clear hW2 hb1
    go_wp2_with fail
    rw [← HW2.out]
    refine (HRM.out _ _ _ X2.out HT0.out.1 HT0.out.2 (HR.out.keep B2.out)).mono ?_; rintro e w3 ⟨rfl, hb3⟩
    have B3 := Lib.hid (B2.out.trans (hb3.mono B2.out.size))
    clear hb3
    go_wp2_with fail
    go_ret2
    exact ⟨rfl, B3.out⟩
  by_cases g2 : l.length % wdK κ = 0
  · have g3 : rdOk (κ : Int) l = true := (rd_yes (by unfold rmB; rw [g0, hn, g1]; rfl) (by rw [hn]; exact g2)).1
    have HT : rdT (κ : Int) l = ⟨(rdK κ l (wdK κ) (l.length / wdK κ)).1.toArray⟩ := by unfold rdT rdV; rw [g3, hn]; rfl
    rw [HT, g3]
    obtain ⟨a1, a2⟩ := Bool.and_eq_true_iff.1 g1
    exact reads_main hκ v l w h a1 (of_decide_eq_true a2) g2
  · have e : rdOk (κ : Int) l = false := (rd_no (.inr (by rw [hn]; exact g2))).1
    rw [rdT_no e, e]
    rw [g1] at HRM
    have HR := Lib.hid h
    obtain ⟨A, cp, rfl⟩ := rd_sh h
    have hmt : (l.length : Int).tmod (wdK κ : Int) = ((l.length % wdK κ : Nat) : Int) := by
      rw [Int.tmod_eq_emod_of_nonneg (by omega)]; exact (Int.natCast_emod _ _).symm
    have hm0 : (l.length : Int) % (wdK κ : Int) = ((l.length % wdK κ : Nat) : Int) := (Int.natCast_emod _ _).symm
    have hw : IntKind.i64.wrap ((l.length % wdK κ : Nat) : Int) = ((l.length % wdK κ : Nat) : Int) := IntWalk.i64_in _ (by have := Nat.mod_le l.length (wdK κ); omega)
    have hz : (((l.length % wdK κ : Nat) : Int) != 0) = true := bne_t (by omega)
    have hT1 : ¬ (wdK κ : Int) = 0 := by omega
    have hT2 : ((wdK κ : Int) == 0) = false := beq_f hT1
    clear g0 g1 g2 e h hκ hn hlen
    generalize l.length % wdK κ = r at *
    generalize wdK κ = T at *
    generalize l.length = n at *
    go_enter Try.func32, Try.ntmps32
    go_wp2_with fail
    refine (HW.out _).mono ?_; rintro e w1 ⟨rfl, hb1⟩
    have X2 : Hid (WrE (w1.alloc (.cells #[.iface (kT κ) (.agg #[]), .int .i64 (stE κ).1, .int .i64 (stE κ).2] 60)) w1.heap.size κ (stE κ)) := Bk.new w1 [.iface (kT κ) (.agg #[]), .int .i64 (stE κ).1, .int .i64 (stE κ).2] 60 w1.heap.size rfl
    have B2 : Hid (Below w.heap.size w (w1.alloc (.cells #[.iface (kT κ) (.agg #[]), .int .i64 (stE κ).1, .int .i64 (stE κ).2] 60))) := hb1.alloc hb1.size _
    obtain ⟨W2, hW2⟩ : ∃ W2, W2 = w1.alloc (.cells #[.iface (kT κ) (.agg #[]), .int .i64 (stE κ).1, .int .i64 (stE κ).2] 60) := ⟨_, rfl⟩
    rw [← hW2] at X2 B2
    have HW2 := Lib.hid hW2
    clear hW2 hb1
    go_wp2_with fail
    rw [← HW2.out]
    refine (HRM.out _ _ _ X2.out HT0.out.1 HT0.out.2 (HR.out.keep B2.out)).mono ?_; rintro e w3 ⟨rfl, hb3⟩
    have X3 : Hid (WrE w3 w1.heap.size κ (stE κ)) := X2.out.keep hb3
    have B3 := Lib.hid (B2.out.trans (hb3.mono B2.out.size))
    clear hb3
    go_wp2_with fail
    refine (HWD.out _ _ _ X3.out HT0.out.1 HT0.out.2).mono ?_; rintro e w4 ⟨rfl, hb4⟩
    have B4 := Lib.hid (B3.out.trans (hb4.mono B3.out.size))
    clear hb4
    go_wp2_with fail
    go_ret2
    exact ⟨rfl, B4.out⟩
end Go.Proofs.Ytmhdjimdhcephaa
