/- The model's VoteBits. -/
import Derived.Test.YtcihogbkfpcfjaaRpm
namespace Go.Proofs.Ytcihogbkfpcfjaa
open Go Go.RowKit
set_option linter.unusedVariables false

theorem vo_no {l : List UInt8} {t : Int} (h : isB l = false ∨ vtB t = false ∨ (l.length : Int) % t ≠ 0) : voOk l t = false := by
  unfold voOk
  rcases h with h | h | h
  · rw [h]; rfl
  · rw [h]; simp
  · rw [decide_eq_false h]; simp
theorem vo_yes {l : List UInt8} {t : Int} (h1 : isB l = true) (h2 : vtB t = true) (h3 : (l.length : Int) % t = 0) : voOk l t = true := by
  unfold voOk; rw [h1, h2, decide_eq_true h3]; rfl
theorem voV_no {l : List UInt8} {t : Int} (h : voOk l t = false) : voV l t = ⟨#[]⟩ := by unfold voV; rw [h]; rfl
theorem voV_yes {l : List UInt8} {t : Int} (h : voOk l t = true) : voV l t = ⟨(voL l t.toNat (l.length / t.toNat)).toArray⟩ := by unfold voV; rw [h]; rfl
theorem ext_blk (s : ByteArray) (t k : Nat) : (s.extract (k * t) (k * t + t)).data.toList = blkL s.data.toList t k := by
  rw [ByteArray.data_extract]; simp [Array.toList_extract, blkL]
theorem blk_inR (l : List UInt8) (t k : Nat) (h : inR 48 49 l = true) : inR 48 49 (blkL l t k) = true := by
  unfold inR blkL at *
  rw [List.all_eq_true] at *
  intro x hx
  exact h x (List.mem_of_mem_drop (List.mem_of_mem_take hx))
theorem blk_len (l : List UInt8) (t k : Nat) (h : k * t + t ≤ l.length) : (blkL l t k).length = t := by
  unfold blkL; rw [List.length_take, List.length_drop]; omega

set_option maxRecDepth 100000 in
set_option maxHeartbeats 2000000 in
theorem vote_spec (s : ByteArray) (t : Int) (w : World) (hs : s.size ≤ maxLen) :
    Calls Try.prog 38 #[.string s, .int .i64 t] w fun e w' => e = .returned (.tuple #[.string (voV s.data.toList t), .bool (voOk s.data.toList t)]) ∧ Below w.heap.size w w' := by
  have HT0 := Lib.hid (l01Bits_any s w hs)
  have HT1 := Lib.hid (l07Votes_any t w)
  have hl : ((s.data.toList.length : Nat) : Int) = (s.size : Int) := rfl
  cases g0 : isB s.data.toList
  · rw [voV_no (vo_no (.inl g0)), vo_no (.inl g0)]; clear hs hl
    rw [g0] at HT0
    clear g0 HT1
    go_enter Try.func38, Try.ntmps38
    go_wp2_with fail
    refine HT0.out.mono ?_; rintro e w' ⟨rfl, rfl⟩
    go_wp2_with fail
    go_ret2
    exact ⟨rfl, Below.refl _ _⟩
  · cases g1 : vtB t
    · rw [voV_no (vo_no (.inr (.inl g1))), vo_no (.inr (.inl g1))]; clear hs hl
      rw [g0] at HT0
      rw [g1] at HT1
      clear g0 g1
      go_enter Try.func38, Try.ntmps38
      go_wp2_with fail
      refine HT0.out.mono ?_; rintro e w' ⟨rfl, rfl⟩
      go_wp2_with fail
      refine HT1.out.mono ?_; rintro e w' ⟨rfl, rfl⟩
      go_wp2_with fail
      go_ret2
      exact ⟨rfl, Below.refl _ _⟩
    · obtain ⟨t1, t2, -⟩ := vt_is g1
      have ht0 : ¬ t = 0 := by omega
      have h0 : 0 ≤ t := by omega
      have h00 : (0 : Int) ≤ (s.size : Int) := by omega
      have hsz : s.size ≤ 400 := (isB_parts g0).1
      by_cases hm : (s.size : Int) % t = 0
      · have e1 : voOk s.data.toList t = true := vo_yes g0 g1 (by rw [hl]; exact hm)
        rw [voV_yes e1, e1]
        have hin := (isB_parts g0).2
        obtain ⟨i0, hi, hz0, hz1, hz2⟩ := info_parts Try.infoByte
        obtain ⟨T, rfl⟩ := Int.eq_ofNat_of_zero_le h0
        rw [Int.toNat_natCast, show s.data.toList.length = s.size from rfl]
        have hmn : s.size % T = 0 := by have : ((s.size % T : Nat) : Int) = (s.size : Int) % (T : Int) := Int.natCast_emod _ _; omega
        obtain ⟨N, hN⟩ : ∃ N, N = s.size / T := ⟨_, rfl⟩
        have hNT : N * T = s.size := by rw [hN]; exact Nat.div_mul_cancel (Nat.dvd_of_mod_eq_zero hmn)
        rw [← hN]
        have hin1 : ∀ k, k < N → k * T + T ≤ s.size := by
          intro k hk
          have := Nat.mul_le_mul_right T (show k + 1 ≤ N by omega)
          rw [Nat.succ_mul] at this; omega
        have hout1 : ∀ k, k ≤ N → ¬ k < N → k * T = s.size := by
          intro k h1 h2
          obtain rfl : k = N := by omega
          exact hNT
        have HIN1 := Lib.hid hin1
        have HOUT1 := Lib.hid hout1
        have HON := Lib.hid (fun k (hk : k < N) W => l01Ones_any (s.extract (k * T) (k * T + T)) W (by have h1 : (s.extract (k * T) (k * T + T)).size = min (k * T + T) s.size - k * T := by simp
                                                                                                       rw [h1]; omega) (by rw [ext_blk]; exact blk_inR _ _ _ hin))
        have HBD : Hid (∀ k, k < N → 0 ≤ onesL (blkL s.data.toList T k) ∧ onesL (blkL s.data.toList T k) ≤ 15) := by
          show ∀ _, _
          intro k hk
          have h1 := onesL_bd (blkL s.data.toList T k)
          have h2 := blk_len s.data.toList T k (by have := hin1 k hk; exact this)
          omega
        have HSU : Hid (∀ k, voL s.data.toList T (k + 1) = voL s.data.toList T k ++ [if (T : Int) < 2 * onesL (blkL s.data.toList T k) then 49 else 48]) := by show ∀ _, _; intro k; rw [voL_succ]; rfl
        have HLE := Lib.hid (voL_len s.data.toList T)
        have HXB := Lib.hid (ext_blk s T)
        have hz : IntKind.i64.wrap (s.size : Int) = (s.size : Int) := IntWalk.i64_in _ (by omega)
        clear e1 hin hs hmn hN hin1 hout1 hNT
        rw [g0] at HT0
        rw [g1] at HT1
        clear g0 g1
        go_enter Try.func38, Try.ntmps38
        go_wp2_with fail
        refine HT0.out.mono ?_; rintro e w' ⟨rfl, rfl⟩
        go_wp2_with fail
        refine HT1.out.mono ?_; rintro e w' ⟨rfl, rfl⟩
        go_wp2_with fail
        clear hm
        go_loopw [6, 7] (fun v i wr => ∃ k I : Nat, k ≤ N ∧ I = k * T ∧ i = .int .i64 I ∧ wr.ownsRow w.heap.size 5 1 v (voL s.data.toList T k).length (byteVals (voL s.data.toList T k)) ∧ Below w.heap.size w wr ∧ w.heap.size ≤ wr.heap.size) (fun _ i _ => s.size - (intOf i).toNat)
        case atStart => exact ⟨0, 0, Nat.zero_le _, by omega, rfl, World.ownsRow_made w #[] 0 (Nat.le_refl _) (by decide) rfl, (Below.refl _ _).alloc (Nat.le_refl _) _, by simp⟩
        case round =>
          obtain ⟨k, I, hk, hI, rfl, hown, hb, hB⟩ := hrel
          have HO := Lib.hid hown
          have HB := Lib.hid hb
          clear hown hb
          by_cases hlt : k < N
          · have hh := HIN1.out k hlt
            have hon := HON.out k hlt
            rw [← hI] at hh hon
            have hx := HXB.out k
            rw [← hI] at hx
            rw [hx] at hon
            have HO1 := Lib.hid hon
            have HS := Lib.hid (HSU.out k)
            have hle := HLE.out k
            obtain ⟨q0, q1⟩ := HBD.out k hlt
            have hkI : Hid (I + T = (k + 1) * T) := by show _ = _; rw [Nat.succ_mul, hI]
            clear hon hx HXB HON HSU HBD HLE HOUT1 HIN1 hI
            generalize onesL (blkL s.data.toList T k) = Q at *
            generalize hL : voL s.data.toList T k = L at *
            have hlen : L.length ≤ 400 := by have : k ≤ I := by have := hkI.out; have h3 : k * T + T = (k+1) * T := (Nat.succ_mul k T).symm; have h4 : k * 1 ≤ k * T := Nat.mul_le_mul_left k (by omega); omega
                                             omega
            clear hle hL
            have i1 : (I : Int) < (s.size : Int) := by omega
            have i2 : (0 : Int) ≤ (I : Int) := by omega
            have i3 : (I : Int) ≤ (I : Int) + (T : Int) := by omega
            have i4 : (I : Int) + (T : Int) ≤ (s.size : Int) := by omega
            have i5 : ((I : Int) + (T : Int)).toNat = I + T := by omega
            have w1 : IntKind.i64.wrap ((I : Int) + (T : Int)) = (I : Int) + (T : Int) := IntWalk.i64_in _ (by omega)
            have w2 : IntKind.i64.wrap (2 * Q) = 2 * Q := IntWalk.i64_in _ (by omega)
            go_wp2_with fail
            refine (HO1.out _).mono ?_; rintro e w' ⟨rfl, rfl⟩
            by_cases hq : (T : Int) < 2 * Q
            · have HS2 := HS.out
              rw [if_pos hq] at HS2
              have HS3 := Lib.hid HS2
              clear HS HS2
              go_wp2_with (at_builtin; refine wpList_append_lies _ rfl _ _ 37 rfl w.heap.size 5 i0 (.int .u8 0) 1 1 Try.underlying37 hi hz0 hz1 hz2 rfl (by decide) _ _ _ rfl (World.ownsRow.alloc HO.out _) ⟨wr.heap.size, 0, none⟩ 1 1 [.int .u8 49] rfl rfl ?c1 ?c2 (by decide) ?c3 ?c4 ?c5 (wr.heap.size + 1) (by simp) ?_)
              case c1 => exact c1_one _ _ _
              case c2 => intro u hu; simp at hu; subst hu; rfl
              case c3 => unfold maxLen; omega
              case c4 => omega
              case c5 => simp; omega
              intro g cap w2 hown2 hgrow hat hlt3
              have HB2 := Lib.hid (below_app HB.out HB.out.size HO.out hgrow)
              have HO2 : Hid (w2.ownsRow w.heap.size 5 1 (.slice (some ⟨g, 0, none⟩) (L.length + 1) cap) (voL s.data.toList T (k + 1)).length (byteVals (voL s.data.toList T (k + 1)))) := by
                show World.ownsRow _ _ _ _ _ _ _
                rw [HS3.out, List.length_append, ← byteVals_snoc]; exact hown2
              clear hown2 hgrow hat hlt3
              go_wp2_with fail
              go_roundw
              case rel => exact ⟨k + 1, I + T, by omega, hkI.out, by go_num, HO2.out, HB2.out, HB2.out.size⟩
              case measure => simp [intOf]; omega
            · have HS2 := HS.out
              rw [if_neg hq] at HS2
              have HS3 := Lib.hid HS2
              clear HS HS2
              go_wp2_with (at_builtin; refine wpList_append_lies _ rfl _ _ 37 rfl w.heap.size 5 i0 (.int .u8 0) 1 1 Try.underlying37 hi hz0 hz1 hz2 rfl (by decide) _ _ _ rfl (World.ownsRow.alloc HO.out _) ⟨wr.heap.size, 0, none⟩ 1 1 [.int .u8 48] rfl rfl ?c1 ?c2 (by decide) ?c3 ?c4 ?c5 (wr.heap.size + 1) (by simp) ?_)
              case c1 => exact c1_one _ _ _
              case c2 => intro u hu; simp at hu; subst hu; rfl
              case c3 => unfold maxLen; omega
              case c4 => omega
              case c5 => simp; omega
              intro g cap w2 hown2 hgrow hat hlt3
              have HB2 := Lib.hid (below_app HB.out HB.out.size HO.out hgrow)
              have HO2 : Hid (w2.ownsRow w.heap.size 5 1 (.slice (some ⟨g, 0, none⟩) (L.length + 1) cap) (voL s.data.toList T (k + 1)).length (byteVals (voL s.data.toList T (k + 1)))) := by
                show World.ownsRow _ _ _ _ _ _ _
                rw [HS3.out, List.length_append, ← byteVals_snoc]; exact hown2
              clear hown2 hgrow hat hlt3
              go_wp2_with fail
              go_roundw
              case rel => exact ⟨k + 1, I + T, by omega, hkI.out, by go_num, HO2.out, HB2.out, HB2.out.size⟩
              case measure => simp [intOf]; omega
          · have hh := HOUT1.out k hk hlt
            rw [← hI] at hh
            obtain rfl : k = N := by omega
            have hnl : ¬ (I : Int) < (s.size : Int) := by omega
            have hcv := conv_own HO.out
            clear HO HON HSU HBD HLE HXB HIN1 HOUT1
            go_wp2_with fail
            go_ret2
            exact ⟨rfl, HB.out⟩
      · rw [voV_no (vo_no (.inr (.inr (by rw [hl]; exact hm)))), vo_no (.inr (.inr (by rw [hl]; exact hm)))]; clear hs hl
        rw [g0] at HT0
        rw [g1] at HT1
        clear g0 g1
        go_enter Try.func38, Try.ntmps38
        go_wp2_with fail
        refine HT0.out.mono ?_; rintro e w' ⟨rfl, rfl⟩
        go_wp2_with fail
        refine HT1.out.mono ?_; rintro e w' ⟨rfl, rfl⟩
        go_wp2_with fail
        go_ret2
        exact ⟨rfl, Below.refl _ _⟩
end Go.Proofs.Ytcihogbkfpcfjaa
