/- The model's l11Is and ValidConsole. -/
import Derived.Test.YtnpigefbdadjfaaVcP
import Derived.Test.YtnpigefbdadjfaaCns
namespace Go.Proofs.Ytnpigefbdadjfaa
open Go Go.RowKit
set_option linter.unusedVariables false

theorem quietV {P : Program} {f : FuncId} {args : Array Value} {w : World} {q n : Nat} {v : Value}
    (h : Calls P f args (w.drewN (q + n)) fun e w' => e = .returned v ∧ w.drewN (q + n) = w') : Calls P f args (w.drewN (q + n)) fun e w'' => e = .returned v ∧ ∃ m, w'' = w.drewN (q + m) :=
  h.mono fun _ _ ⟨he, hm⟩ => ⟨he, n, hm.symm⟩
theorem bneV_t {a b : Int} (h : a ≠ b) : (a != b) = true := by simpa using h

set_option maxRecDepth 100000 in
set_option maxHeartbeats 4000000 in
theorem l11Is_any (w : World) (b : Nat) (vn vl : Value) (ns ls : List ByteArray) (hc : Bk w b (cnV vn vl)) (hn : RdS w vn ns) (hl : RdS w vl ls) (sn : ∀ s ∈ ns, s.size ≤ maxLen) (sl : ∀ s ∈ ls, s.size ≤ maxLen) :
    Calls Try.prog 56 #[.pointer (some ⟨b, 0, none⟩)] w fun e w' => e = .returned (.bool (vcB ns ls)) ∧ ∃ q, w' = w.drewN q := by
  have HLEN := Lib.hid (fun h => vc_len (ns := ns) (ls := ls) h)
  have HNM := Lib.hid (fun k hk h => vc_nm (ns := ns) (ls := ls) (k := k) hk h)
  have HINC := Lib.hid (fun k hk h0 h => vc_inc (ns := ns) (ls := ls) (k := k) hk h0 h)
  have HBT := Lib.hid (fun k hk h => vc_bt (ns := ns) (ls := ls) (k := k) hk h)
  have HYES := Lib.hid (fun h6 he hi h => vc_yes (ns := ns) (ls := ls) h6 he hi h)
  have HST := Lib.hid (fun k (h1 : incN ns k = true) h => incN_yes (ns := ns) (k := k) h1 h)
  have HSN : Hid (∀ k, k < ns.length → (ns.getD k ByteArray.empty).size ≤ maxLen) := by
    show ∀ k, _
    intro k hk
    rw [List.getD, List.getElem?_eq_getElem hk]; exact sn _ (List.getElem_mem hk)
  have HSL : Hid (∀ k, k < ls.length → (ls.getD k ByteArray.empty).size ≤ maxLen) := by
    show ∀ k, _
    intro k hk
    rw [List.getD, List.getElem?_eq_getElem hk]; exact sl _ (List.getElem_mem hk)
  have c0 := hc.c 0 _ rfl
  have c1 := hc.c 1 _ rfl
  obtain ⟨A1, k1, rfl, at1⟩ := rds_at hn
  obtain ⟨A2, k2, rfl, at2⟩ := rds_at hl
  have HA1 := Lib.hid at1
  have HA2 := Lib.hid at2
  have lm := hn.len
  have lp := hl.len
  unfold maxLen at lm lp
  clear at1 at2 hn hl hc sn sl
  generalize hm1 : ns.length = n1 at *
  generalize hm2 : ls.length = n2 at *
  have HL1 := Lib.hid hm1
  have HL2 := Lib.hid hm2
  clear hm1 hm2
  generalize vcB ns ls = R at *
  by_cases h6 : n1 ≤ 6
  rotate_left
  · have hR := HLEN.out (fun h => h6 h.1)
    subst hR
    have g : (6 : Int) < (n1 : Int) := by omega
    have g' : 6 < n1 := by omega
    clear h6
    go_enter Try.func56, Try.ntmps56
    go_wp2_with fail
    go_quiet (fail)
    go_wp2_with fail
    go_ret
    exact ⟨rfl, _, rfl⟩
  have g : ¬ (6 : Int) < (n1 : Int) := by omega
  have g' : ¬ 6 < n1 := by omega
  by_cases he : n1 = n2
  rotate_left
  · have hR := HLEN.out (fun h => he h.2)
    subst hR
    have g2 : ((n2 : Int) != (n1 : Int)) = true := bneV_t (by omega)
    have g2' : ¬ n2 = n1 := by omega
    have HHE := Lib.hid he
    clear h6 he
    go_enter Try.func56, Try.ntmps56
    go_wp2_with fail
    go_quiet (fail)
    go_wp2_with fail
    go_ret
    exact ⟨rfl, _, rfl⟩
  subst he
  have g2 : ((n1 : Int) != (n1 : Int)) = false := by simp
  have H6 := Lib.hid h6
  clear h6
  go_enter Try.func56, Try.ntmps56
  go_wp2_with fail
  go_quiet (fail)
  go_wp2_with fail
  clear g g' g2
  go_loopw [3] (fun i wr => ∃ k q : Nat, k ≤ n1 ∧ i = .int .i64 k ∧ wr = w.drewN q ∧ incN ns k = true ∧ ∀ j, j < k → isNm (ns.getD j ByteArray.empty).data.toList = true ∧ isB (ls.getD j ByteArray.empty).data.toList = true) (fun i _ => n1 - (intOf i).toNat)
  case atStart => exact ⟨0, nq, Nat.zero_le _, rfl, rfl, rfl, fun j hj => absurd hj (by omega)⟩
  case round =>
    obtain ⟨k, q, hk, rfl, rfl, hin, hff⟩ := hrel
    have HIN := Lib.hid hin
    have HF0 := Lib.hid hff
    clear hin hff
    by_cases hlt : k < n1
    · obtain ⟨b1, o1, rfl, -, hc1⟩ := HA1.out k hlt
      obtain ⟨b2, o2, rfl, -, hc2⟩ := HA2.out k hlt
      have d1 := hc1 k hlt
      have d2 := hc2 k hlt
      have i0 : (0 : Int) ≤ (k : Int) := by omega
      have i1 : (k : Int) < (n1 : Int) := by omega
      have wk : IntKind.i64.wrap ((k : Int) + 1) = (k : Int) + 1 := IntWalk.i64_in _ (by omega)
      have CN : Hid (∀ W, Calls Try.prog 79 #[.string (ns.getD k ByteArray.empty)] W fun e w' => e = .returned (.bool (isNm (ns.getD k ByteArray.empty).data.toList)) ∧ W = w') := by
        show ∀ W, _
        exact fun W => isName_spec _ W (HSN.out k hlt)
      have CB : Hid (∀ W, Calls Try.prog 80 #[.string (ls.getD k ByteArray.empty)] W fun e w' => e = .returned (.bool (isB (ls.getD k ByteArray.empty).data.toList)) ∧ W = w') := by
        show ∀ W, _
        exact fun W => l01Bits_any _ W (HSL.out k hlt)
      have HXN : Hid (isNm (ns.getD k ByteArray.empty).data.toList = false → R = false) := HNM.out k hlt
      have HXB : Hid (isB (ls.getD k ByteArray.empty).data.toList = false → R = false) := HBT.out k hlt
      have HXY : Hid (isNm (ns.getD k ByteArray.empty).data.toList = true → isB (ls.getD k ByteArray.empty).data.toList = true → ∀ j, j < k + 1 → isNm (ns.getD j ByteArray.empty).data.toList = true ∧ isB (ls.getD j ByteArray.empty).data.toList = true) := by
        show _ → _ → ∀ j, _
        intro e1 e2 j hj
        by_cases e : j = k
        · subst e; exact ⟨e1, e2⟩
        · exact HF0.out j (by omega)
      by_cases h0 : k = 0
      · have HX := Lib.hid (HST.out k HIN.out (.inl h0))
        have z0 : ¬ (0 : Int) < (k : Int) := by omega
        have z1 : ¬ 0 < k := by omega
        have z2 : decide ((0 : Int) < (k : Int)) = false := decide_eq_false z0
        clear h0 hc1 hc2
        generalize isNm (ns.getD k ByteArray.empty).data.toList = bn at *
        generalize isB (ls.getD k ByteArray.empty).data.toList = bb at *
        generalize ns.getD k ByteArray.empty = d at *
        generalize ls.getD k ByteArray.empty = y at *
        cases bn
        · have hR := HXN.out rfl
          subst hR
          go_wp2_with fail
          go_quiet ((first | (go_at_call 79; exact quietV (CN.out _)) | (go_at_call 80; exact quietV (CB.out _))))
          go_wp2_with fail
          go_ret
          exact ⟨rfl, q + nq, World.drewN_drewN _ _ _⟩
        · cases bb
          · have hR := HXB.out rfl
            subst hR
            go_wp2_with fail
            go_quiet ((first | (go_at_call 79; exact quietV (CN.out _)) | (go_at_call 80; exact quietV (CB.out _))))
            go_wp2_with fail
            go_ret
            exact ⟨rfl, q + nq, World.drewN_drewN _ _ _⟩
          · have HY := Lib.hid (HXY.out rfl rfl)
            go_wp2_with fail
            go_quiet ((first | (go_at_call 79; exact quietV (CN.out _)) | (go_at_call 80; exact quietV (CB.out _))))
            go_wp2_with fail
            go_roundw
            case rel => exact ⟨k + 1, q + nq, by omega, by go_num, rfl, HX.out, HY.out⟩
            case measure => simp [intOf]; omega
      · obtain ⟨p, hp⟩ : ∃ p, p = k - 1 := ⟨_, rfl⟩
        have dp := hc1 p (by omega)
        have j0 : (0 : Int) ≤ (p : Int) := by omega
        have j1 : (p : Int) < (n1 : Int) := by omega
        have wp : IntKind.i64.wrap ((k : Int) - 1) = (p : Int) := by rw [IntWalk.i64_in _ (by omega)]; omega
        have z0 : (0 : Int) < (k : Int) := by omega
        have z1 : 0 < k := by omega
        have z2 : decide ((0 : Int) < (k : Int)) = true := decide_eq_true z0
        have HSTK := Lib.hid (fun h => HST.out k HIN.out (.inr h))
        have HXI := Lib.hid (HINC.out k hlt z1)
        rw [← hp] at HSTK HXI
        clear h0 hc1 hc2 hp
        generalize isNm (ns.getD k ByteArray.empty).data.toList = bn at *
        generalize isB (ls.getD k ByteArray.empty).data.toList = bb at *
        generalize ns.getD p ByteArray.empty = a at *
        generalize ns.getD k ByteArray.empty = d at *
        generalize ls.getD k ByteArray.empty = y at *
        have hge := fun t W => run_geqB (P := Try.prog) t a d W
        cases bn
        · have hR := HXN.out rfl
          subst hR
          go_wp2_with fail
          go_quiet ((first | (go_at_call 79; exact quietV (CN.out _)) | (go_at_call 80; exact quietV (CB.out _))))
          go_wp2_with fail
          go_ret
          exact ⟨rfl, q + nq, World.drewN_drewN _ _ _⟩
        cases hq : lsB a d
        · rw [hq] at hge
          have hR := HXI.out hq
          subst hR
          clear hq
          go_wp2_with fail
          go_quiet ((first | (go_at_call 79; exact quietV (CN.out _)) | (go_at_call 80; exact quietV (CB.out _))))
          go_wp2_with fail
          go_ret
          exact ⟨rfl, q + nq, World.drewN_drewN _ _ _⟩
        rw [hq] at hge
        have HX := Lib.hid (HSTK.out hq)
        clear hq
        cases bb
        · have hR := HXB.out rfl
          subst hR
          go_wp2_with fail
          go_quiet ((first | (go_at_call 79; exact quietV (CN.out _)) | (go_at_call 80; exact quietV (CB.out _))))
          go_wp2_with fail
          go_ret
          exact ⟨rfl, q + nq, World.drewN_drewN _ _ _⟩
        · have HY := Lib.hid (HXY.out rfl rfl)
          go_wp2_with fail
          go_quiet ((first | (go_at_call 79; exact quietV (CN.out _)) | (go_at_call 80; exact quietV (CB.out _))))
          go_wp2_with fail
          go_roundw
          case rel => exact ⟨k + 1, q + nq, by omega, by go_num, rfl, HX.out, HY.out⟩
          case measure => simp [intOf]; omega
    · obtain rfl : k = n1 := by omega
      have hR : R = true := by
        have := HYES.out
        exact this H6.out trivial HIN.out HF0.out
      subst hR
      have hnl : ¬ (k : Int) < (k : Int) := by omega
      go_wp2_with fail
      go_ret
      exact ⟨rfl, _, rfl⟩

theorem validC_spec (w : World) (vn vl : Value) (ns ls : List ByteArray) (hn : RdS w vn ns) (hl : RdS w vl ls) (sn : ∀ s ∈ ns, s.size ≤ maxLen) (sl : ∀ s ∈ ls, s.size ≤ maxLen) :
    Calls Try.prog 28 #[.agg #[vn, vl]] w fun e w' => e = .returned (.bool (vcB ns ls)) ∧ Below w.heap.size w w' := by
  have HB : Hid (Below w.heap.size w (w.alloc (.cells #[vn, vl] 49))) := (Below.refl _ _).alloc (Nat.le_refl _) _
  have C := Lib.hid (l11Is_any _ w.heap.size vn vl ns ls (Bk.new w (cnV vn vl) 49 _ rfl) (hn.keep HB.out) (hl.keep HB.out) sn sl)
  obtain ⟨A1, k1, rfl, -⟩ := rds_at hn
  obtain ⟨A2, k2, rfl, -⟩ := rds_at hl
  clear hn hl sn sl
  generalize vcB ns ls = R at *
  go_enter Try.func28, Try.ntmps28
  go_wp2_with fail
  refine C.out.mono ?_; rintro e w1 ⟨rfl, q, rfl⟩
  go_wp2_with fail
  go_ret
  exact ⟨rfl, below_drewN HB.out _⟩
end Go.Proofs.Ytnpigefbdadjfaa
