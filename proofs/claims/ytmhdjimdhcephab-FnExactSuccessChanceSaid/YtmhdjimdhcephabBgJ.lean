/- The model's products of great numbers. -/
import Derived.Test.YtmhdjimdhcephabBgI
namespace Go.Proofs.Ytmhdjimdhcephab
open Go Go.RowKit
set_option linter.unusedVariables false

set_option maxRecDepth 100000 in
set_option maxHeartbeats 2000000 in
theorem l09Times_any (w : World) (v1 v2 : Value) (a b : List Int) (h1 : Rd w v1 a) (h2 : Rd w v2 b) (ha : BD a) (hb : BD b) (la : a.length ≤ 400) (lb : b.length ≤ 400) :
    Calls Try.prog 86 #[v1, v2] w fun e w' => ∃ v, e = .returned v ∧ ∃ L, Own w' w.heap.size v L ∧ (BG L ∧ bv L = bv a * bv b ∧ L.length ≤ a.length + b.length) ∧ Below w.heap.size w w' := by
  obtain ⟨A1, n1, c1, rfl, hn1, -, -, r1⟩ := h1
  obtain ⟨A2, n2, c2, rfl, hn2, -, -, r2⟩ := h2
  have N1 := Lib.hid hn1
  have N2 := Lib.hid hn2
  have R1 := Lib.hid r1
  have R2 := Lib.hid r2
  have HA := Lib.hid ha
  have HB := Lib.hid hb
  rw [hn1] at la
  rw [hn2] at lb
  have hmk := make_big (n1 + n2) (by omega)
  have HM := Lib.hid (RowI.made w w.heap.size (n1 + n2) (by omega) (Nat.le_refl _))
  have HB0 := Lib.hid ((Below.refl w.heap.size w).alloc (Nat.le_refl _) (.cells (List.replicate (n1 + n2) (Value.int .i64 0)).toArray 2))
  have HZ := Lib.hid (tmI_zero a b)
  rw [hn1, hn2] at HZ
  have e12 : (((n1 + n2 : Nat)) : Int) = (n1 : Int) + (n2 : Int) := by omega
  rw [e12] at hmk
  have hmk' : ∀ W, (Instr.makeSlice 86 (.int .i64 ((n1 : Int) + (n2 : Int))) (.int .i64 ((n1 : Int) + (n2 : Int)))).run Try.prog W = .ok (.slice (some ⟨W.heap.size, 0, none⟩) (n1 + n2) (n1 + n2)) (W.alloc (.cells (List.replicate (n1 + n2) (Value.int .i64 0)).toArray 2)) := hmk
  clear hn1 hn2 r1 r2 ha hb hmk e12
  go_enter Try.func86, Try.ntmps86
  go_wp2_with fail
  go_loopw [6] (fun i wr => ∃ (k : Nat) (out : List Int), k ≤ n1 ∧ i = .int .i64 k ∧ TmI a b k 0 out 0 ∧ RowI wr w.heap.size w.heap.size (n1 + n2) (n1 + n2) out ∧ Below w.heap.size w wr) (fun i _ => n1 - (intOf i).toNat)
  case atStart => exact ⟨0, _, Nat.zero_le _, rfl, HZ.out, HM.out, HB0.out⟩
  case round =>
    obtain ⟨i, out, hi, rfl, htm, hrow, hbw⟩ := hrel
    have TM := Lib.hid htm
    have RW := Lib.hid hrow
    have BW := Lib.hid hbw
    clear htm hrow hbw HM HB0 HZ
    by_cases hil : i < n1
    · have hi1 : (i : Int) < (n1 : Int) := by omega
      have hi0 : (0 : Int) ≤ (i : Int) := by omega
      have hia : i < a.length := by have := N1.out; omega
      obtain ⟨b1, o1, rfl, hlt1, hc1⟩ := R1.out (by omega)
      have HXI := Lib.hid (hc1 i hia)
      have hx0 := HA.out a[i] (List.getElem_mem hia)
      have HAI : Hid (a.getD i 0 = a[i]) := getD_lt hia
      generalize a[i] = x at *
      have HIA := Lib.hid hia
      have HIL := Lib.hid hil
      clear hc1 hia hi hil
      go_wp2_with fail
      go_loopw [7, 8] (fun c k wr => ∃ (kk : Nat) (o : List Int) (cc : Int), k = .int .i64 kk ∧ c = .int .i64 cc ∧ TmI a b i kk o cc ∧ RowI wr w.heap.size w.heap.size (n1 + n2) (n1 + n2) o ∧ Below w.heap.size w wr) (fun _ k _ => n2 + 2 - (intOf k).toNat)
      case atStart => exact ⟨0, out, 0, rfl, rfl, TM.out, RW.out, BW.out⟩
      case round =>
        obtain ⟨k, out2, cc, rfl, rfl, htm, hrow, hbw⟩ := hrel
        clear TM RW BW
        have TM := Lib.hid htm
        have RW := Lib.hid hrow
        have BW := Lib.hid hbw
        have hcc := htm.c0
        have hkle := htm.kle
        rw [N2.out] at hkle
        have hk0 : (0 : Int) ≤ (k : Int) := by omega
        have wik : IntKind.i64.wrap ((i : Int) + (k : Int)) = (i : Int) + (k : Int) := IntWalk.i64_in _ (by omega)
        clear htm hrow hbw
        by_cases hcond : k < b.length ∨ 0 < cc
        · have hwh := tm_where TM.out HIA.out hcond
          have HNX := Lib.hid (tm_next HA.out HB.out TM.out HIA.out hcond)
          have hsb := tm_s (i := i) (k := k) HA.out HB.out TM.out
          have hrow1 : (i : Int) + (k : Int) < (n1 : Int) + (n2 : Int) := by have := TM.out.len; have := N1.out; have := N2.out; omega
          have hin : ((i : Int) + (k : Int)) = ((i + k : Nat) : Int) := by omega
          have hcl := RW.out.at (i + k) hwh
          have hfz := RW.out.fz (i + k)
          have hdo := TM.out.dig.at (i + k)
          rw [← getD_lt hwh] at hcl
          have HRS := Lib.hid (fun q z => (RW.out.drewN q).set (i + k) z)
          have HBS := Lib.hid (fun q z => (below_drewN BW.out q).setCell (p := ⟨w.heap.size, i + k, none⟩) (Nat.le_refl _) z)
          have HRT := Lib.hid (fun z => RW.out.set (i + k) z)
          have HBT := Lib.hid (fun z => BW.out.setCell (p := ⟨w.heap.size, i + k, none⟩) (Nat.le_refl _) z)
          have HMS : Hid (n2 + 2 - (k + 1) < n2 + 2 - k) := by
            show _ < _
            have := N2.out
            rcases hcond with h | h <;> omega
          have HKL : Hid (k ≤ n2) := by
            show _ ≤ _
            have := N2.out
            rcases hcond with h | h
            · omega
            · rcases hkle with h' | h'
              · exact h'
              · omega
          unfold tmS at HNX hsb
          by_cases hk : k < n2
          · have hkb : k < b.length := by have := N2.out; omega
            have hk1 : (k : Int) < (n2 : Int) := by omega
            obtain ⟨b2, o2, rfl, hlt2, hc2⟩ := R2.out (by omega)
            have hcy := (BW.out.cell (p := ⟨b2, o2 + k, none⟩) hlt2).trans (hc2 k hkb)
            have hcx := (BW.out.cell (p := ⟨b1, o1 + i, none⟩) hlt1).trans HXI.out
            have hy0 := HB.out b[k] (List.getElem_mem hkb)
            have HBK : Hid (b.getD k 0 = b[k]) := getD_lt hkb
            rw [if_pos hkb, HAI.out, HBK.out] at HNX hsb
            have hxy := bd_mul hx0 hy0
            generalize b[k] = y at *
            generalize out2.getD (i + k) 0 = o at *
            generalize hP : x * y = P at *
            have w1 : IntKind.i64.wrap (cc + o) = cc + o := IntWalk.i64_in _ (by omega)
            have w2 : IntKind.i64.wrap (cc + o + P) = cc + o + P := IntWalk.i64_in _ (by omega)
            have w3 : IntKind.i64.wrap P = P := IntWalk.i64_in _ (by omega)
            have hT0 : 0 ≤ cc + o + P := hsb.1
            clear hc2 hcond hkle hwh hin
            have hcy' : ∀ q, (wr.drewN q).cell? ⟨b2, o2 + k, none⟩ = some (.int .i64 y) := fun q => by simpa using hcy
            have hcx' : ∀ q, (wr.drewN q).cell? ⟨b1, o1 + i, none⟩ = some (.int .i64 x) := fun q => by simpa using hcx
            have hcl' : ∀ q, (wr.drewN q).cell? ⟨w.heap.size, i + k, none⟩ = some (.int .i64 o) := fun q => by simpa using hcl
            have hfz' : ∀ q, (wr.drewN q).frozen? ⟨w.heap.size, i + k, none⟩ = false := fun q => by simpa using hfz
            go_wp2_with fail
            go_quiet (fail)
            go_wp2_with fail
            go_roundw
            case rel => exact ⟨k + 1, _, _, by go_num, rfl, HNX.out, HRS.out _ _, HBS.out _ _⟩
            case measure => simp [intOf]; have := HMS.out; omega
          · have hkb : ¬ k < b.length := by have := N2.out; omega
            have hk1 : ¬ (k : Int) < (n2 : Int) := by omega
            have hc0 : 0 < cc := by rcases hcond with h | h; exact absurd h hkb; exact h
            rw [if_neg hkb] at HNX hsb
            rw [Int.add_zero] at HNX hsb
            generalize out2.getD (i + k) 0 = o at *
            have w1 : IntKind.i64.wrap (cc + o) = cc + o := IntWalk.i64_in _ (by omega)
            have hT0 : 0 ≤ cc + o := hsb.1
            clear hcond hkle hwh hin
            go_wp2_with fail
            go_roundw
            case rel => exact ⟨k + 1, _, _, by go_num, rfl, HNX.out, HRT.out _, HBT.out _⟩
            case measure => simp [intOf]; have := HMS.out; omega
        · have hkb : ¬ k < n2 := by have := N2.out; omega
          have hk1 : ¬ (k : Int) < (n2 : Int) := by omega
          have hc0 : ¬ 0 < cc := by omega
          have HRW := Lib.hid (tm_row TM.out HIA.out hcond)
          have HIL1 := HIL.out
          clear hcond hkle wik
          go_wp2_with fail
          go_roundw
          case rel => exact ⟨i + 1, out2, by have := HIL.out; omega, by go_num, HRW.out, RW.out, BW.out⟩
          case measure => simp [intOf]; have := HIL.out; omega
    · obtain rfl : i = n1 := by omega
      have HE : Hid (bv out = bv a * bv b) := tm_end (by have := TM.out; rwa [← N1.out] at this)
      have HDG := Lib.hid TM.out.dig
      have HLN : Hid (out.length = i + n2) := by show _ = _; rw [TM.out.len, N1.out, N2.out]
      have hpre := Lib.hid (fun m hm => RW.out.pre m hm)
      have hatc := Lib.hid (fun k hk => RW.out.at k hk)
      clear TM
      go_wp2_with fail
      go_loop [5] (fun v => ∃ m : Nat, m ≤ i + n2 ∧ v = .slice (some ⟨w.heap.size, 0, none⟩) m (i + n2) ∧ Hid (∀ j, m ≤ j → out.getD j 0 = 0)) (fun v => match v with | .slice _ m _ => m | _ => 0)
      case atStart => exact ⟨i + n2, Nat.le_refl _, rfl, fun j hj => getD_ge (by have := HLN.out; omega)⟩
      case round =>
        obtain ⟨m, hm, rfl, hz⟩ := hrel
        by_cases h0 : m = 0
        · subst h0
          have HT := Lib.hid (trim_end HDG.out (Nat.zero_le _) hz.out (.inl rfl))
          have HO := Lib.hid (hpre.out 0 (Nat.zero_le _))
          go_wp2_with fail
          go_ret
          exact ⟨_, rfl, _, HO.out, ⟨HT.out.1, by rw [HT.out.2.1, HE.out], by rw [HT.out.2.2]; exact Nat.zero_le _⟩, BW.out⟩
        · obtain ⟨m, rfl⟩ : ∃ m', m = m' + 1 := ⟨m - 1, by omega⟩
          have hml : m < out.length := by have := HLN.out; omega
          have hc := hatc.out m hml
          have em : ((m + 1 : Nat) : Int) - 1 = (m : Int) := by omega
          have hp : (0 : Int) < ((m + 1 : Nat) : Int) := by omega
          have hm0 : (0 : Int) ≤ (m : Int) := by omega
          have hm1 : (m : Int) < ((m + 1 : Nat) : Int) := by omega
          have hd : out.getD m 0 = out[m] := getD_lt hml
          obtain ⟨z, hzz⟩ : ∃ z, z = out[m] := ⟨_, rfl⟩
          rw [← hzz] at hc hd
          have HD := Lib.hid hd
          clear hzz hd h0
          by_cases hz0 : z = 0
          · subst hz0
            have HZ2 := Lib.hid (trim_next hz.out (by rw [Nat.add_sub_cancel]; exact HD.out))
            clear hz
            go_wp2_with fail
            exact ⟨⟨m, by omega, rfl, fun j hj => HZ2.out j (by omega)⟩, Nat.lt_succ_self m⟩
          · have HT := Lib.hid (trim_end HDG.out (by have := HLN.out; omega) hz.out (.inr (by rw [Nat.add_sub_cancel, HD.out]; exact hz0)))
            have HO := Lib.hid (hpre.out (m + 1) hm)
            have hzb : (z == 0) = false := by rw [beq_eq_false_iff_ne]; exact hz0
            clear hz
            go_wp2_with fail
            go_ret
            exact ⟨_, rfl, _, HO.out, ⟨HT.out.1, by rw [HT.out.2.1, HE.out], by rw [HT.out.2.2, N1.out, N2.out]; exact hm⟩, BW.out⟩
end Go.Proofs.Ytmhdjimdhcephab
