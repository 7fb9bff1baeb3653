/- The model's RepeatBits; the tests of a number of votes. -/
import Derived.Test.YtcihogbkfpcfjaaVoP
import Derived.Test.YtcihogbkfpcfjaaBits
import Derived.Test.YtcihogbkfpcfjaaOwn
import Derived.Test.YtcihogbkfpcfjaaCln
import Derived.Deep.AppendLies
namespace Go.Proofs.Ytcihogbkfpcfjaa
open Go Go.RowKit
set_option linter.unusedVariables false


theorem vt_walk (t : Int) : vtB t = (decide (1 ≤ t ∧ t ≤ 15) && decide (t % 2 = 1)) := rfl
theorem l07Votes_any (t : Int) (w : World) : Calls Try.prog 60 #[.int .i64 t] w fun e w' => e = .returned (.bool (vtB t)) ∧ w = w' := by
  by_cases h : 1 ≤ t ∧ t ≤ 15
  · have HV : Hid (vtB t = decide (t % 2 = 1)) := by show _ = _; rw [vt_walk, decide_eq_true h]; rfl
    have HI := Lib.hid (in_any t 1 15 w)
    rw [decide_eq_true h] at HI
    obtain ⟨h1, h2⟩ := h
    have h0 : 0 ≤ t := by omega
    go_enter Try.func60, Try.ntmps60
    go_wp2_with fail
    refine HI.out.mono ?_; rintro e w' ⟨rfl, rfl⟩
    go_wp2_with fail
    go_ret
    exact ⟨ret_bool (by rw [HV.out]; rfl), rfl⟩
  · have HV : Hid (vtB t = false) := by show _ = _; rw [vt_walk, decide_eq_false h]; rfl
    have HI := Lib.hid (in_any t 1 15 w)
    rw [decide_eq_false h] at HI
    clear h
    go_enter Try.func60, Try.ntmps60
    go_wp2_with fail
    refine HI.out.mono ?_; rintro e w' ⟨rfl, rfl⟩
    go_wp2_with fail
    go_ret
    exact ⟨ret_bool (by rw [HV.out]), rfl⟩
theorem isVote_any (t : Int) (w : World) : Calls Try.prog 62 #[.int .i64 t] w fun e w' => e = .returned (.bool (vtB t)) ∧ w = w' := by
  by_cases h : 1 ≤ t ∧ t ≤ 15
  · have HV : Hid (vtB t = decide (t % 2 = 1)) := by show _ = _; rw [vt_walk, decide_eq_true h]; rfl
    have HI := Lib.hid (is_any t 1 15 w)
    rw [decide_eq_true h] at HI
    obtain ⟨h1, h2⟩ := h
    have h0 : 0 ≤ t := by omega
    go_enter Try.func62, Try.ntmps62
    go_wp2_with fail
    refine HI.out.mono ?_; rintro e w' ⟨rfl, rfl⟩
    go_wp2_with fail
    go_ret
    exact ⟨ret_bool (by rw [HV.out]; rfl), rfl⟩
  · have HV : Hid (vtB t = false) := by show _ = _; rw [vt_walk, decide_eq_false h]; rfl
    have HI := Lib.hid (is_any t 1 15 w)
    rw [decide_eq_false h] at HI
    clear h
    go_enter Try.func62, Try.ntmps62
    go_wp2_with fail
    refine HI.out.mono ?_; rintro e w' ⟨rfl, rfl⟩
    go_wp2_with fail
    go_ret
    exact ⟨ret_bool (by rw [HV.out]), rfl⟩
theorem rp_no {l : List UInt8} {t : Int} (h : isB l = false ∨ vtB t = false ∨ 400 < (l.length : Int) * t) : rpOk l t = false := by
  unfold rpOk
  rcases h with h | h | h
  · rw [h]; rfl
  · rw [h]; simp
  · rw [decide_eq_false (show ¬ (l.length : Int) * t ≤ 400 by omega)]; simp
theorem rp_yes {l : List UInt8} {t : Int} (h1 : isB l = true) (h2 : vtB t = true) (h3 : (l.length : Int) * t ≤ 400) : rpOk l t = true := by
  unfold rpOk; rw [h1, h2, decide_eq_true h3]; rfl
theorem rpV_no {l : List UInt8} {t : Int} (h : rpOk l t = false) : rpV l t = ⟨#[]⟩ := by unfold rpV; rw [h]; rfl
theorem rpV_yes {l : List UInt8} {t : Int} (h : rpOk l t = true) : rpV l t = ⟨(rpL l t.toNat).toArray⟩ := by unfold rpV; rw [h]; rfl
theorem vt_is {t : Int} (h : vtB t = true) : 1 ≤ t ∧ t ≤ 15 ∧ t % 2 = 1 := by
  unfold vtB at h
  have h' := Bool.and_eq_true_iff.1 h
  exact ⟨(of_decide_eq_true h'.1).1, (of_decide_eq_true h'.1).2, of_decide_eq_true h'.2⟩
theorem isB_parts {l : List UInt8} (h : isB l = true) : l.length ≤ 400 ∧ inR 48 49 l = true := by
  unfold isB at h
  have h' := Bool.and_eq_true_iff.1 h
  exact ⟨of_decide_eq_true h'.1, h'.2⟩
/-- What has been made: whole bits, and a part of the next one. -/
def rpM (s : ByteArray) (t i k : Nat) : List UInt8 := rpL (s.data.toList.take i) t ++ (if h : i < s.size then List.replicate k s[i] else [])
theorem rpM_succ (s : ByteArray) (t i k : Nat) (h : i < s.size) : rpM s t i (k + 1) = rpM s t i k ++ [s[i]] := by
  unfold rpM
  rw [dif_pos h, dif_pos h, List.replicate_succ', ← List.append_assoc]
theorem rpM_next (s : ByteArray) (t i : Nat) (h : i < s.size) : rpM s t (i + 1) 0 = rpM s t i t := by
  unfold rpM
  rw [dif_pos h, take_snoc s i h, rpL_snoc]
  split <;> simp
theorem rpM_zero (s : ByteArray) (t i : Nat) : rpM s t i 0 = rpL (s.data.toList.take i) t := by
  unfold rpM; split <;> simp
theorem rpM_len (s : ByteArray) (t i k : Nat) (h : i < s.size) : (rpM s t i k).length = i * t + k := by
  unfold rpM
  rw [dif_pos h, List.length_append, rpL_len, List.length_take, List.length_replicate, show min i s.data.toList.length = i from by have : s.data.toList.length = s.size := rfl; omega]
set_option maxRecDepth 100000 in
set_option maxHeartbeats 1000000 in
theorem repeat_specA (s : ByteArray) (t : Int) (w : World) (hs : s.size ≤ maxLen) (hq : isB s.data.toList = true → vtB t = true → (s.size : Int) * t ≤ 400) :
    Calls Try.prog 36 #[.string s, .int .i64 t] w fun e w' => e = .returned (.tuple #[.string (rpV s.data.toList t), .bool (rpOk s.data.toList t)]) ∧ Below w.heap.size w w' := by
  have HT0 := Lib.hid (l01Bits_any s w hs)
  have HT1 := Lib.hid (l07Votes_any t w)
  cases g0 : isB s.data.toList
  · rw [rpV_no (rp_no (.inl g0)), rp_no (.inl g0)]; clear hq hs
    rw [g0] at HT0
    clear g0 HT1
    go_enter Try.func36, Try.ntmps36
    go_wp2_with fail
    refine HT0.out.mono ?_; rintro e w' ⟨rfl, rfl⟩
    go_wp2_with fail
    go_ret2
    exact ⟨rfl, Below.refl _ _⟩
  · skip
    cases g1 : vtB t
    · rw [rpV_no (rp_no (.inr (.inl g1))), rp_no (.inr (.inl g1))]; clear hq hs
      rw [g0] at HT0
      rw [g1] at HT1
      clear g0 g1
      go_enter Try.func36, Try.ntmps36
      go_wp2_with fail
      refine HT0.out.mono ?_; rintro e w' ⟨rfl, rfl⟩
      go_wp2_with fail
      refine HT1.out.mono ?_; rintro e w' ⟨rfl, rfl⟩
      go_wp2_with fail
      go_ret2
      exact ⟨rfl, Below.refl _ _⟩
    · skip
      replace hq := hq g0 g1
      obtain ⟨i0, hi, hz0, hz1, hz2⟩ := info_parts Try.infoByte
      have e1 : rpOk s.data.toList t = true := rp_yes g0 g1 hq
      rw [rpV_yes e1, e1]
      obtain ⟨t1, t2, -⟩ := vt_is g1
      obtain ⟨h400, hin⟩ := isB_parts g0
      have hsz : s.size ≤ 400 := h400
      obtain ⟨T, rfl⟩ := Int.eq_ofNat_of_zero_le (show 0 ≤ t by omega)
      have HALL := Lib.hid (take_all s s.size (by omega))
      have hw : IntKind.i64.wrap ((s.size : Int) * (T : Int)) = (s.size : Int) * (T : Int) := IntWalk.i64_in _ (by have : 0 ≤ (s.size : Int) * (T : Int) := Int.mul_nonneg (by omega) (by omega); omega)
      have hmul : ∀ i, i < s.size → i * T + T ≤ 400 := by
        intro i hi
        have := Nat.mul_le_mul_right T (show i + 1 ≤ s.size by omega)
        rw [Nat.succ_mul] at this
        have h2 : ((s.size * T : Nat) : Int) = (s.size : Int) * (T : Int) := Int.natCast_mul _ _
        omega
      have HML := Lib.hid hmul
      have HNX := Lib.hid (rpM_next s T)
      have HSC := Lib.hid (fun i k h => rpM_succ s T i k h)
      have HLN := Lib.hid (rpM_len s T)
      have HZ := Lib.hid (rpM_zero s T)
      obtain ⟨P, hP⟩ : ∃ P, P = (s.size : Int) * (T : Int) := ⟨_, rfl⟩
      have hw : IntKind.i64.wrap ((s.size : Int) * (T : Int)) = P := by rw [hP]; exact hw
      rw [← hP] at hq
      rw [Int.toNat_natCast]
      have hq4 : ¬ 400 < P := by omega
      clear e1 h400 hin hs hmul hP hq
      rw [g0] at HT0
      rw [g1] at HT1
      clear g0 g1
      go_enter Try.func36, Try.ntmps36
      go_wp2_with fail
      refine HT0.out.mono ?_; rintro e w' ⟨rfl, rfl⟩
      go_wp2_with fail
      refine HT1.out.mono ?_; rintro e w' ⟨rfl, rfl⟩
      go_wp2_with fail
      go_loopw [6, 7] (fun v i wr => ∃ k : Nat, k ≤ s.size ∧ i = .int .i64 k ∧ wr.ownsRow w.heap.size 5 1 v (rpM s T k 0).length (byteVals (rpM s T k 0)) ∧ Below w.heap.size w wr ∧ w.heap.size ≤ wr.heap.size) (fun _ i _ => s.size - (intOf i).toNat)
      case atStart => exact ⟨0, Nat.zero_le _, rfl, by rw [HZ.out]; exact World.ownsRow_made w #[] 0 (Nat.le_refl _) (by decide) rfl, (Below.refl _ _).alloc (Nat.le_refl _) _, by simp⟩
      case round =>
        obtain ⟨k, hk, rfl, hown, hb, hB⟩ := hrel
        have HO := Lib.hid hown
        have HB := Lib.hid hb
        clear hown hb
        by_cases hlt : k < s.size
        · have hk1 : (k : Int) < (s.size : Int) := by omega
          have hk0 : (0 : Int) ≤ (k : Int) := by omega
          have hm := HML.out k hlt
          obtain ⟨wo, hwo⟩ : ∃ wo, wo = wr := ⟨_, rfl⟩
          go_wp2_with fail
          go_loopw [6, 8] (fun v j wr => ∃ q : Nat, q ≤ T ∧ j = .int .i64 q ∧ wr.ownsRow w.heap.size 5 1 v (rpM s T k q).length (byteVals (rpM s T k q)) ∧ Below w.heap.size w wr ∧ w.heap.size ≤ wr.heap.size) (fun _ j _ => T - (intOf j).toNat)
          case atStart => exact ⟨0, Nat.zero_le _, rfl, HO.out, HB.out, hB⟩
          case round =>
            clear hwo hB HO HB
            obtain ⟨q, hq, rfl, hown, hb, hB⟩ := hrel
            have HO := Lib.hid hown
            have HB := Lib.hid hb
            clear hown hb
            by_cases hlt2 : q < T
            · have hq1 : (q : Int) < (T : Int) := by omega
              have HS := Lib.hid (HSC.out k q hlt)
              have hlen : (rpM s T k q).length ≤ 400 := by rw [HLN.out k q hlt]; omega
              obtain ⟨X, hX⟩ : ∃ X : Int, (s[k].toNat : Int) = X := ⟨_, rfl⟩
              have HX := Lib.hid hX
              have ex := hX
              clear hX
              generalize rpM s T k q = L at *
              go_wp2_with (at_builtin; refine wpList_append_lies _ rfl _ _ 37 rfl w.heap.size 5 i0 (.int .u8 0) 1 1 Try.underlying37 hi hz0 hz1 hz2 rfl (by decide) _ _ _ rfl (World.ownsRow.alloc HO.out _) ⟨wr.heap.size, 0, none⟩ 1 1 [.int .u8 X] rfl rfl ?c1 ?c2 (by decide) ?c3 ?c4 ?c5 (wr.heap.size + 1) (by simp) ?_)
              case c1 => exact c1_one _ _ _
              case c2 => intro u hu; simp at hu; subst hu; rfl
              case c3 => unfold maxLen; omega
              case c4 => omega
              case c5 => simp; omega
              intro g cap w2 hown2 hgrow hat hlt3
              have HB2 := Lib.hid (below_app HB.out HB.out.size HO.out hgrow)
              have HO2 : Hid (w2.ownsRow w.heap.size 5 1 (.slice (some ⟨g, 0, none⟩) (L.length + 1) cap) (rpM s T k (q + 1)).length (byteVals (rpM s T k (q + 1)))) := by
                show World.ownsRow _ _ _ _ _ _ _
                rw [HS.out, List.length_append, ← byteVals_snoc, HX.out]; exact hown2
              clear hown2 hgrow hat hlt3
              go_wp2_with fail
              go_roundw
              case rel => exact ⟨q + 1, by omega, by go_num, HO2.out, HB2.out, HB2.out.size⟩
              case measure => simp [intOf]; omega
            · obtain rfl : q = T := by omega
              have ho2 := HO.out
              rw [← HNX.out k hlt] at ho2
              have HO2 := Lib.hid ho2
              clear ho2
              clear HO
              go_wp2_with fail
              go_roundw
              case rel => exact ⟨k + 1, by omega, by go_num, HO2.out, HB.out, HB.out.size⟩
              case measure => simp [intOf]; omega
        · obtain rfl : k = s.size := by omega
          have ho2 := HO.out
          rw [HZ.out, HALL.out] at ho2
          have hcv := conv_own ho2
          clear ho2
          clear HO HML HNX HSC HLN HZ HALL
          go_wp2_with fail
          go_ret2
          exact ⟨rfl, HB.out⟩
set_option maxRecDepth 100000 in
set_option maxHeartbeats 1000000 in
theorem repeat_specB (s : ByteArray) (t : Int) (w : World) (hs : s.size ≤ maxLen) (hq : isB s.data.toList = true → vtB t = true → ¬ (s.size : Int) * t ≤ 400) :
    Calls Try.prog 36 #[.string s, .int .i64 t] w fun e w' => e = .returned (.tuple #[.string (rpV s.data.toList t), .bool (rpOk s.data.toList t)]) ∧ Below w.heap.size w w' := by
  have HT0 := Lib.hid (l01Bits_any s w hs)
  have HT1 := Lib.hid (l07Votes_any t w)
  cases g0 : isB s.data.toList
  · rw [rpV_no (rp_no (.inl g0)), rp_no (.inl g0)]; clear hq hs
    rw [g0] at HT0
    clear g0 HT1
    go_enter Try.func36, Try.ntmps36
    go_wp2_with fail
    refine HT0.out.mono ?_; rintro e w' ⟨rfl, rfl⟩
    go_wp2_with fail
    go_ret2
    exact ⟨rfl, Below.refl _ _⟩
  · skip
    cases g1 : vtB t
    · rw [rpV_no (rp_no (.inr (.inl g1))), rp_no (.inr (.inl g1))]; clear hq hs
      rw [g0] at HT0
      rw [g1] at HT1
      clear g0 g1
      go_enter Try.func36, Try.ntmps36
      go_wp2_with fail
      refine HT0.out.mono ?_; rintro e w' ⟨rfl, rfl⟩
      go_wp2_with fail
      refine HT1.out.mono ?_; rintro e w' ⟨rfl, rfl⟩
      go_wp2_with fail
      go_ret2
      exact ⟨rfl, Below.refl _ _⟩
    · skip
      replace hq := hq g0 g1
      have hl : ((s.data.toList.length : Nat) : Int) = (s.size : Int) := rfl
      have hbad := rp_no (l := s.data.toList) (t := t) (.inr (.inr (by rw [hl]; omega)))
      rw [rpV_no hbad, hbad]
      obtain ⟨t1, t2, -⟩ := vt_is g1
      obtain ⟨h400, hin⟩ := isB_parts g0
      have hsz : s.size ≤ 400 := h400
      have hp : 0 ≤ (s.size : Int) * t := Int.mul_nonneg (by omega) (by omega)
      have hp2 : (s.size : Int) * t ≤ 400 * 15 := Int.mul_le_mul (by omega) t2 (by omega) (by omega)
      have hw : IntKind.i64.wrap ((s.size : Int) * t) = (s.size : Int) * t := IntWalk.i64_in _ (by omega)
      obtain ⟨P, hP⟩ : ∃ P, P = (s.size : Int) * t := ⟨_, rfl⟩
      have hw : IntKind.i64.wrap ((s.size : Int) * t) = P := by rw [hP]; exact hw
      rw [← hP] at hq
      have hq4 : 400 < P := by omega
      clear hbad h400 hin hs hP hq hp hp2 hl
      rw [g0] at HT0
      rw [g1] at HT1
      clear g0 g1
      go_enter Try.func36, Try.ntmps36
      go_wp2_with fail
      refine HT0.out.mono ?_; rintro e w' ⟨rfl, rfl⟩
      go_wp2_with fail
      refine HT1.out.mono ?_; rintro e w' ⟨rfl, rfl⟩
      go_wp2_with fail
      go_ret2
      exact ⟨rfl, Below.refl _ _⟩

theorem repeat_spec (s : ByteArray) (t : Int) (w : World) (hs : s.size ≤ maxLen) :
    Calls Try.prog 36 #[.string s, .int .i64 t] w fun e w' => e = .returned (.tuple #[.string (rpV s.data.toList t), .bool (rpOk s.data.toList t)]) ∧ Below w.heap.size w w' := by
  by_cases h : (s.size : Int) * t ≤ 400
  · exact repeat_specA s t w hs (fun _ _ => h)
  · exact repeat_specB s t w hs (fun _ _ => h)
end Go.Proofs.Ytcihogbkfpcfjaa
