/- The contract of the model's ListText. -/
import Derived.Test.YtnlnoookpcplgacDoorLtp
import Derived.BigQuiet
namespace Go.Proofs.YtnlnoookpcplgacDoor
open Go Go.RowKit
set_option linter.unusedVariables false

set_option maxRecDepth 100000 in
theorem l01List_any (w : World) (v : Value) (l : List Int) (h : Rd w v l) :
    Calls Tryd.prog 21 #[v] w fun e w' => e = .returned (.bool (ltOk l)) ∧ Below w.heap.size w w' := by
  have HD := Lib.hid h
  have hlen := h.len
  unfold maxLen at hlen
  have hOk : ltOk l = (l.all inV && decide (l.length ≤ 64)) := rfl
  obtain ⟨A, n, c, rfl, hn, -, -, r⟩ := h
  rw [hn] at hOk hlen
  have HN := Lib.hid hn
  have HR := Lib.hid r
  have HOK := Lib.hid hOk
  clear hn r hOk
  go_enter Tryd.func21, Tryd.ntmps21
  go_wp2_with fail
  go_loopw [3] (fun i wr => ∃ k q : Nat, k ≤ n ∧ i = .int .i64 k ∧ wr = w.drewN q ∧ (l.take k).all inV = true) (fun i _ => n - (intOf i).toNat)
  case atStart => exact ⟨0, 0, Nat.zero_le _, rfl, rfl, rfl⟩
  case round =>
    obtain ⟨k, q, hk, rfl, rfl, hf⟩ := hrel
    by_cases hlt : k < n
    · obtain ⟨b', o', rfl, hlt0, hcc⟩ := HR.out (by omega)
      have hkl : k < l.length := by have := HN.out; omega
      have hx0 := hcc k hkl
      have hs2 := all_take_succ2 inV l k hkl
      rw [hf, Bool.true_and] at hs2
      have hbad := all_bad2 inV l k hkl
      clear hcc hf
      generalize l[k] = x at *
      by_cases hx : -1000000000000000 ≤ x ∧ x ≤ 1000000000000000
      · have HA : Hid ((l.take (k + 1)).all inV = true) := by show _ = _; rw [hs2]; exact decide_eq_true hx
        obtain ⟨x1, x2⟩ := hx
        clear hs2 hbad
        go_wp2_with fail
        first
          | go_quiet ((go_at_call 37; exact quiet_leftq2 (l00In_yes _ _ _ _ x1 x2)))
          | (refine (l00In_yes _ _ _ _ x1 x2).mono ?_; rintro e w' ⟨rfl, rfl⟩)
        go_wp2_with fail
        go_roundw
        case rel => exact ⟨k + 1, _, by omega, by go_num, by first | rfl | (rw [World.drewN_drewN]), HA.out⟩
        case measure => simp [intOf]; omega
      · have hb := hbad (decide_eq_false hx)
        have HE : Hid (ltOk l = false) := by show _ = _; rw [HOK.out, hb]; rfl
        have HX := Lib.hid hx
        clear hs2 hbad hx hb
        go_wp2_with fail
        first
          | go_quiet ((go_at_call 37; exact quiet_leftq2 (l00In_no _ _ _ _ HX.out)))
          | (refine (l00In_no _ _ _ _ HX.out).mono ?_; rintro e w' ⟨rfl, rfl⟩)
        go_wp2_with fail
        go_ret
        exact ⟨by rw [HE.out]; rfl, ⟨rfl, rfl, rfl, by simp, fun _ _ => by simp⟩⟩
    · obtain rfl : k = n := by omega
      rw [List.take_of_length_le (by have := HN.out; omega)] at hf
      have HE : Hid (ltOk l = decide (k ≤ 64)) := by show _ = _; rw [HOK.out, hf]; rfl
      clear hf
      by_cases h64 : k ≤ 64
      · have HE2 : Hid (ltOk l = true) := by show _ = _; rw [HE.out]; exact decide_eq_true h64
        have h65 : decide ((k : Int) ≤ 64) = true := decide_eq_true (by omega)
        go_wp2_with fail
        go_ret
        exact ⟨by rw [HE2.out]; rfl, ⟨rfl, rfl, rfl, by simp, fun _ _ => by simp⟩⟩
      · have HE2 : Hid (ltOk l = false) := by show _ = _; rw [HE.out]; exact decide_eq_false h64
        have h65 : decide ((k : Int) ≤ 64) = false := decide_eq_false (by omega)
        go_wp2_with fail
        go_ret
        exact ⟨by rw [HE2.out]; rfl, ⟨rfl, rfl, rfl, by simp, fun _ _ => by simp⟩⟩

theorem jT_full2 {l : List Int} (h : l ≠ []) : (jT l).toList.isEmpty = false := by
  have t1 := jT_full h
  cases hh : (jT l).toList with
  | nil => rw [hh] at t1; simp at t1
  | cons a r => rfl
set_option maxRecDepth 100000 in
theorem l01Text_any (w : World) (v : Value) (l : List Int) (h : Rd w v l) (hall : l.all inV = true) (h64 : l.length ≤ 64) :
    Calls Tryd.prog 22 #[v] w fun e w' => e = .returned (.string (if l = [] then ⟨#[110, 111, 110, 101]⟩ else jT l)) ∧ Below w.heap.size w w' := by
  have HD := Lib.hid h
  have HAL := Lib.hid hall
  have HJ : Hid (∀ k, k ≤ l.length → (jT (l.take k)).size ≤ 22 * k) := Lib.hid (fun k hk => jT_len k hk (List.all_eq_true.2 fun x hx => List.all_eq_true.1 hall x (List.mem_of_mem_take hx)))
  have HDC := Lib.hid (fun x (hx : inV x = true) W => dec_any x (by have := of_decide_eq_true hx; omega) (by have := of_decide_eq_true hx; omega) W)
  obtain ⟨A, n, c, rfl, hn, -, -, r⟩ := h
  rw [hn] at h64
  have HN := Lib.hid hn
  clear hn r hall
  go_enter Tryd.func22, Tryd.ntmps22
  go_wp2_with fail
  go_loopw [3, 4] (fun out i wr => ∃ k : Nat, k ≤ n ∧ i = .int .i64 k ∧ out = .string (jT (l.take k)) ∧ Below w.heap.size w wr) (fun _ i _ => n - (intOf i).toNat)
  case atStart => exact ⟨0, Nat.zero_le _, rfl, rfl, Below.refl _ _⟩
  case round =>
    obtain ⟨k, hk, rfl, rfl, hb⟩ := hrel
    have B0 := Lib.hid hb
    by_cases hlt : k < n
    · have HDW := Lib.hid (HD.out.keep hb)
      obtain ⟨A', n', c', e', -, -, -, r⟩ := HDW.out
      injection e' with e1 e2 e3
      subst e1 e2 e3
      obtain ⟨b', o', rfl, hlt0, hcc⟩ := r (by omega)
      have hkl : k < l.length := by have := HN.out; omega
      have hx0 := hcc k hkl
      have hxv : inV l[k] = true := List.all_eq_true.1 HAL.out _ (List.getElem_mem hkl)
      have hjs := HJ.out k (by omega)
      have hds := tx_len hxv
      have HDX := Lib.hid (HDC.out _ hxv)
      have hk0 : (0 : Int) ≤ (k : Int) := by omega
      have hk1 : (k : Int) < (n : Int) := by omega
      by_cases h0 : k = 0
      · have HSN : Hid (jT (l.take (k + 1)) = jT (l.take k) ++ tx l[k]) := by
          show _ = _
          subst h0
          rw [List.take_succ_eq_append_getElem hkl, List.take_zero, List.nil_append, jT_one]
          exact (nil_add _).symm
        clear hcc hb r hxv
        subst h0
        rw [Nat.add_zero] at hx0
        generalize hO : jT (l.take 0) = O at *
        have HDX2 : Hid (∀ W : World, Calls Tryd.prog 38 #[.int .i64 l[0]] W fun e w' => e = .returned (.string (tx l[0])) ∧ Below W.heap.size W w') := HDX
        clear HDX
        generalize tx l[0] = D at *
        generalize l[0] = x at *
        have r1 : ∀ W : World, (Op.stringOp .add O D).run Tryd.prog W = .ok (.string (O ++ D)) W := fun W => run_string_add_sum W O D (by omega)
        clear hO
        go_wp2_with fail
        refine (HDX2.out _).mono ?_; rintro e w2 ⟨rfl, hb2⟩
        have B2 := Lib.hid (B0.out.trans (hb2.mono B0.out.size))
        clear hb2
        go_wp2_with fail
        go_roundw
        case rel => exact ⟨1, by omega, by go_num, by rw [← HSN.out], B2.out⟩
        case measure => simp [intOf]; omega
      · have HSN : Hid (jT (l.take (k + 1)) = jT (l.take k) ++ ⟨#[44]⟩ ++ tx l[k]) := by
          show _ = _
          rw [List.take_succ_eq_append_getElem hkl, jT_snoc _ (take_ne (by omega) (by omega))]
        clear hcc hb r hxv
        have t0 : decide ((0 : Int) < (k : Int)) = true := decide_eq_true (by omega)
        have hk00 : 0 < k := by omega
        generalize hO : jT (l.take k) = O at *
        have HDX2 : Hid (∀ W : World, Calls Tryd.prog 38 #[.int .i64 l[k]] W fun e w' => e = .returned (.string (tx l[k])) ∧ Below W.heap.size W w') := HDX
        clear HDX
        generalize tx l[k] = D at *
        generalize l[k] = x at *
        have r1 : ∀ W : World, (Op.stringOp .add O ⟨#[44]⟩).run Tryd.prog W = .ok (.string (O ++ ⟨#[44]⟩)) W := fun W => run_string_add_sum W O ⟨#[44]⟩ (by show O.size + 1 ≤ _; omega)
        have r2 : ∀ W : World, (Op.stringOp .add (O ++ ⟨#[44]⟩) D).run Tryd.prog W = .ok (.string (O ++ ⟨#[44]⟩ ++ D)) W := fun W => run_string_add_sum W _ D (by rw [ByteArray.size_append]; show O.size + 1 + D.size ≤ _; omega)
        clear hO
        generalize O ++ ⟨#[44]⟩ = P at *
        go_wp2_with fail
        refine (HDX2.out _).mono ?_; rintro e w2 ⟨rfl, hb2⟩
        have B2 := Lib.hid (B0.out.trans (hb2.mono B0.out.size))
        clear hb2
        go_wp2_with fail
        go_roundw
        case rel => exact ⟨k + 1, by omega, by go_num, by rw [HSN.out], B2.out⟩
        case measure => simp [intOf]; omega
    · obtain rfl : k = n := by omega
      rw [List.take_of_length_le (by have := HN.out; omega)]
      by_cases h0 : l = []
      · subst h0
        have HE : Hid ((if ([] : List Int) = [] then (⟨#[110, 111, 110, 101]⟩ : ByteArray) else jT []) = ⟨#[110, 111, 110, 101]⟩) := by show _ = _; rfl
        have t1 : (jT []).toList.isEmpty = true := by rw [show jT [] = ⟨#[]⟩ from rfl]; simp
        go_wp2_with fail
        go_ret
        exact ⟨by first | rfl | (rw [HE.out]; rfl), B0.out⟩
      · have HE : Hid ((if l = [] then (⟨#[110, 111, 110, 101]⟩ : ByteArray) else jT l) = jT l) := by show _ = _; exact if_neg h0
        have t1 := jT_full2 h0
        go_wp2_with fail
        go_ret
        exact ⟨by first | rfl | (rw [HE.out]; rfl), B0.out⟩

set_option maxRecDepth 100000 in
theorem listText_spec (w : World) (v : Value) (l : List Int) (h : Rd w v l) :
    Calls Tryd.prog 9 #[v] w fun e w' => e = .returned (.tuple #[.string (ltV l), .bool (ltOk l)]) ∧ Below w.heap.size w w' := by
  have HD := Lib.hid h
  have HL := Lib.hid (fun W h' => l01List_any W v l h')
  have HT := Lib.hid (fun W h' h1 h2 => l01Text_any W v l h' h1 h2)
  have hno := @lt_no l
  have hv : ltOk l = true → l.all inV = true ∧ l.length ≤ 64 := fun e => by
    obtain ⟨e1, e2⟩ := Bool.and_eq_true_iff.1 e
    exact ⟨e1, of_decide_eq_true e2⟩
  have hyes : ltOk l = true → ltV l = if l = [] then ⟨#[110, 111, 110, 101]⟩ else jT l := fun e => by unfold ltV; rw [if_pos e]
  obtain ⟨A, n, c, rfl, -, -, -, -⟩ := h
  cases ho : ltOk l
  · rw [ho] at HL
    rw [hno ho]
    clear ho hno hv hyes HT
    go_enter Tryd.func9, Tryd.ntmps9
    go_wp2_with fail
    refine (HL.out _ HD.out).mono ?_; rintro e w1 ⟨rfl, hb1⟩
    have B1 := Lib.hid hb1
    clear hb1
    go_wp2_with fail
    go_ret2
    exact ⟨rfl, B1.out⟩
  · rw [ho] at HL
    rw [hyes ho]
    obtain ⟨v1, v2⟩ := hv ho
    have HT2 := Lib.hid (fun W h' => HT.out W h' v1 v2)
    clear ho hno hv hyes HT v1 v2
    generalize (if l = [] then (⟨#[110, 111, 110, 101]⟩ : ByteArray) else jT l) = Z at *
    go_enter Tryd.func9, Tryd.ntmps9
    go_wp2_with fail
    refine (HL.out _ HD.out).mono ?_; rintro e w1 ⟨rfl, hb1⟩
    have B1 := Lib.hid hb1
    have D1 := Lib.hid (HD.out.keep hb1)
    clear hb1
    go_wp2_with fail
    refine (HT2.out _ D1.out).mono ?_; rintro e w2 ⟨rfl, hb2⟩
    have B2 := Lib.hid (B1.out.trans (hb2.mono B1.out.size))
    clear hb2
    go_wp2_with fail
    go_ret2
    exact ⟨rfl, B2.out⟩
end Go.Proofs.YtnlnoookpcplgacDoor
