/- The model stuffs bits: l04Stuff. -/
import Derived.Test.YtllkojakeoennaaStP
import Derived.Test.YtllkojakeoennaaFlg
import Derived.Deep.RegionLaw
import Derived.Deep.AppendLies
namespace Go.Proofs.Ytllkojakeoennaa
open Go Go.RowKit
set_option linter.unusedVariables false

theorem sv_cells {W : World} {k : Nat} {a b : Int} (h : Bk W k (sV a b)) : W.cell? ⟨k, 0, none⟩ = some (.int .i64 a) ∧ W.cell? ⟨k, 1, none⟩ = some (.int .i64 b) := bk_two h
theorem byte_of {c : UInt8} {n : Nat} (hn : n < 256) (h : (c.toNat : Int) = n) : c = UInt8.ofNat n := by
  apply UInt8.toNat_inj.1
  have e : (UInt8.ofNat n).toNat = n % 256 := rfl
  omega
theorem st_other {n : Nat} {d o x : UInt8} {L M : List UInt8} {r : Nat} (h : stF n d o L = (M, r)) (hx : x ≠ d) : stStep n d o (stF n d o L) x = (M ++ [x], 0) := by rw [h]; simp [stStep, hx]
theorem st_digit {n : Nat} {d o : UInt8} {L M : List UInt8} {r : Nat} (h : stF n d o L = (M, r)) (hr : ¬ r + 1 = n) : stStep n d o (stF n d o L) d = (M ++ [d], r + 1) := by rw [h]; simp [stStep, hr]
theorem st_full {n : Nat} {d o : UInt8} {L M : List UInt8} {r : Nat} (h : stF n d o L = (M, r)) (hr : r + 1 = n) : stStep n d o (stF n d o L) d = ((M ++ [d]) ++ [o], 0) := by rw [h]; simp [stStep, hr]
set_option maxRecDepth 100000 in
set_option maxHeartbeats 2000000 in
theorem l04Stuff_any (w : World) (q n : Nat) (b : Int) (d o : UInt8) (s : ByteArray) (hd : Dg b d o) (hn : 1 ≤ n ∧ n ≤ 10) (hs : s.size ≤ 400) (hin : inR 48 49 s.data.toList = true) (h : Bk w q (sV n b)) :
    Calls Try.prog 50 #[.pointer (some ⟨q, 0, none⟩), .string s] w fun e w' => e = .returned (.string ⟨(stF n d o s.data.toList).1.toArray⟩) ∧ Below w.heap.size w w' := by
  obtain ⟨i0, hi, hz0, hz1, hz2⟩ := info_parts Try.infoByte
  have HO := Lib.hid h
  have HIN := Lib.hid hin
  have HL := Lib.hid (fun k => stF_len n d o (s.data.toList.take k))
  have HST := Lib.hid (fun k hk => stF_take n d o s k hk)
  have HRUN := Lib.hid (fun k => stF_run n d o hn.1 (s.data.toList.take k))
  have HALL := Lib.hid (fun k hk => take_all s k hk)
  obtain ⟨n1, n2⟩ := hn
  clear h hin
  rcases hd with ⟨rfl, rfl, rfl⟩ | ⟨rfl, rfl, rfl⟩
  · go_enter Try.func50, Try.ntmps50
    go_wp2_with fail
    go_loopw [5, 6, 7] (fun v u i wr => ∃ (k r : Nat) (M : List UInt8), k ≤ s.size ∧ i = .int .i64 k ∧ u = .int .i64 r ∧ stF n 48 49 (s.data.toList.take k) = (M, r) ∧ wr.ownsRow w.heap.size 5 1 v M.length (byteVals M) ∧ Below w.heap.size w wr) (fun _ _ i _ => s.size - (intOf i).toNat)
    case atStart => exact ⟨0, 0, [], Nat.zero_le _, rfl, rfl, by simp [stF], World.ownsRow_made w #[] 0 (Nat.le_refl _) (by decide) rfl, (Below.refl _ _).alloc (Nat.le_refl _) _⟩
    case round =>
      obtain ⟨k, r, M, hk, rfl, rfl, hst, hown, hb⟩ := hrel
      have HM := Lib.hid hst
      have hlen : M.length ≤ 800 := by have := (HL.out k).2; rw [hst] at this; simp at this; omega
      have hrun : r < n := by have := HRUN.out k; rw [hst] at this; exact this
      clear hst
      by_cases hlt : k < s.size
      · obtain ⟨a1, a2⟩ := inR_at 48 49 s k hlt HIN.out
        have HS := Lib.hid (HST.out k hlt)
        rcases (show (s[k].toNat : Int) = 48 ∨ (s[k].toNat : Int) = 49 from by omega) with ea | ea
        · clear a1 a2
          have HX : Hid (s[k] = 48) := by show _ = _; exact byte_of (n := 48) (by decide) ea
          go_wp2_with (at_builtin; refine wpList_append_own _ rfl _ _ 53 rfl w.heap.size 5 i0 (.int .u8 0) 1 1 Try.underlying53 hi hz0 hz1 hz2 rfl (by decide) _ _ _ rfl (hown.alloc _) ⟨wr.heap.size, 0, none⟩ 1 1 [.int .u8 48] rfl rfl ?c1 ?c2 ?c3 ?c4 ?c5 ?_)
          case c1 => exact c1_one _ _ _
          case c2 => intro u hu; simp at hu; subst hu; rfl
          case c3 => unfold maxLen; simp; omega
          case c4 => simp; omega
          case c5 => have := hb.size; simp at this ⊢; omega
          intro v1 w1 hown1 hgrow1 _
          have hb1 := below_app hb hb.size hown hgrow1
          have ho1 : w1.ownsRow w.heap.size 5 1 v1 (M ++ [48]).length (byteVals (M ++ [48])) := by rw [← byteVals_snoc, List.length_append]; exact hown1
          obtain ⟨q0, q1⟩ := sv_cells (HO.out.keep hb1)
          clear hown hgrow1 hb hown1
          by_cases hr : r + 1 = n
          · have HT : Hid (stF n 48 49 (s.data.toList.take (k + 1)) = ((M ++ [48]) ++ [49], 0)) := by show _ = _; rw [HS.out, HX.out]; exact st_full HM.out hr
            have hr1 : ((r : Int) + 1 == (n : Int)) = true := beq_t (by omega)
            go_wp2_with fail
            go_region
            have ho2 := ho1.drew
            have hb2 := hb1.drew
            go_wp2_with (at_builtin; refine wpList_append_own _ rfl _ _ 53 rfl w.heap.size 5 i0 (.int .u8 0) 1 1 Try.underlying53 hi hz0 hz1 hz2 rfl (by decide) _ _ _ rfl (ho2.alloc _) ⟨w1.drew.heap.size, 0, none⟩ 1 1 [.int .u8 49] rfl rfl ?c1 ?c2 ?c3 ?c4 ?c5 ?_)
            case c1 => exact c1_one _ _ _
            case c2 => intro u hu; simp at hu; subst hu; rfl
            case c3 => unfold maxLen; simp; omega
            case c4 => simp; omega
            case c5 => have := hb2.size; simp at this ⊢; omega
            intro v2 w2 hown2 hgrow2 _
            have hb3 := below_app hb2 hb2.size ho2 hgrow2
            have ho3 : w2.ownsRow w.heap.size 5 1 v2 ((M ++ [48]) ++ [49]).length (byteVals ((M ++ [48]) ++ [49])) := by rw [← byteVals_snoc]; simpa using hown2
            clear ho1 ho2 hown2 hgrow2 q0 q1
            go_wp2_with fail
            go_roundw
            case rel => exact ⟨k + 1, 0, (M ++ [48]) ++ [49], by omega, by go_num, rfl, HT.out, ho3, hb3⟩
            case measure => simp [intOf]; omega
          · have HT : Hid (stF n 48 49 (s.data.toList.take (k + 1)) = (M ++ [48], r + 1)) := by show _ = _; rw [HS.out, HX.out]; exact st_digit HM.out hr
            have hr1 : ((r : Int) + 1 == (n : Int)) = false := beq_f (by omega)
            go_wp2_with fail
            go_region
            go_wp2_with fail
            go_roundw
            case rel => exact ⟨k + 1, r + 1, M ++ [48], by omega, by go_num, by go_num, HT.out, ho1, hb1.drew⟩
            case measure => simp [intOf]; omega
        · clear a1 a2
          have HX : Hid (s[k] = 49) := by show _ = _; exact byte_of (n := 49) (by decide) ea
          go_wp2_with (at_builtin; refine wpList_append_own _ rfl _ _ 53 rfl w.heap.size 5 i0 (.int .u8 0) 1 1 Try.underlying53 hi hz0 hz1 hz2 rfl (by decide) _ _ _ rfl (hown.alloc _) ⟨wr.heap.size, 0, none⟩ 1 1 [.int .u8 49] rfl rfl ?c1 ?c2 ?c3 ?c4 ?c5 ?_)
          case c1 => exact c1_one _ _ _
          case c2 => intro u hu; simp at hu; subst hu; rfl
          case c3 => unfold maxLen; simp; omega
          case c4 => simp; omega
          case c5 => have := hb.size; simp at this ⊢; omega
          intro v1 w1 hown1 hgrow1 _
          have hb1 := below_app hb hb.size hown hgrow1
          have ho1 : w1.ownsRow w.heap.size 5 1 v1 (M ++ [49]).length (byteVals (M ++ [49])) := by rw [← byteVals_snoc, List.length_append]; exact hown1
          obtain ⟨q0, q1⟩ := sv_cells (HO.out.keep hb1)
          clear hown hgrow1 hb hown1
          have HT : Hid (stF n 48 49 (s.data.toList.take (k + 1)) = (M ++ [49], 0)) := by show _ = _; rw [HS.out, HX.out]; exact st_other HM.out (by decide)
          go_wp2_with fail
          go_region
          go_wp2_with fail
          go_roundw
          case rel => exact ⟨k + 1, 0, M ++ [49], by omega, by go_num, rfl, HT.out, ho1, hb1.drew⟩
          case measure => simp [intOf]; omega
      · have hcv := conv_own hown
        have HE : Hid (stF n 48 49 s.data.toList = (M, r)) := by show _ = _; rw [← HALL.out k hlt]; exact HM.out
        go_wp2_with fail
        go_ret
        exact ⟨ret_str (by rw [HE.out]), hb⟩
  · go_enter Try.func50, Try.ntmps50
    go_wp2_with fail
    go_loopw [5, 6, 7] (fun v u i wr => ∃ (k r : Nat) (M : List UInt8), k ≤ s.size ∧ i = .int .i64 k ∧ u = .int .i64 r ∧ stF n 49 48 (s.data.toList.take k) = (M, r) ∧ wr.ownsRow w.heap.size 5 1 v M.length (byteVals M) ∧ Below w.heap.size w wr) (fun _ _ i _ => s.size - (intOf i).toNat)
    case atStart => exact ⟨0, 0, [], Nat.zero_le _, rfl, rfl, by simp [stF], World.ownsRow_made w #[] 0 (Nat.le_refl _) (by decide) rfl, (Below.refl _ _).alloc (Nat.le_refl _) _⟩
    case round =>
      obtain ⟨k, r, M, hk, rfl, rfl, hst, hown, hb⟩ := hrel
      have HM := Lib.hid hst
      have hlen : M.length ≤ 800 := by have := (HL.out k).2; rw [hst] at this; simp at this; omega
      have hrun : r < n := by have := HRUN.out k; rw [hst] at this; exact this
      clear hst
      by_cases hlt : k < s.size
      · obtain ⟨a1, a2⟩ := inR_at 48 49 s k hlt HIN.out
        have HS := Lib.hid (HST.out k hlt)
        rcases (show (s[k].toNat : Int) = 48 ∨ (s[k].toNat : Int) = 49 from by omega) with ea | ea
        · clear a1 a2
          have HX : Hid (s[k] = 48) := by show _ = _; exact byte_of (n := 48) (by decide) ea
          go_wp2_with (at_builtin; refine wpList_append_own _ rfl _ _ 53 rfl w.heap.size 5 i0 (.int .u8 0) 1 1 Try.underlying53 hi hz0 hz1 hz2 rfl (by decide) _ _ _ rfl (hown.alloc _) ⟨wr.heap.size, 0, none⟩ 1 1 [.int .u8 48] rfl rfl ?c1 ?c2 ?c3 ?c4 ?c5 ?_)
          case c1 => exact c1_one _ _ _
          case c2 => intro u hu; simp at hu; subst hu; rfl
          case c3 => unfold maxLen; simp; omega
          case c4 => simp; omega
          case c5 => have := hb.size; simp at this ⊢; omega
          intro v1 w1 hown1 hgrow1 _
          have hb1 := below_app hb hb.size hown hgrow1
          have ho1 : w1.ownsRow w.heap.size 5 1 v1 (M ++ [48]).length (byteVals (M ++ [48])) := by rw [← byteVals_snoc, List.length_append]; exact hown1
          obtain ⟨q0, q1⟩ := sv_cells (HO.out.keep hb1)
          clear hown hgrow1 hb hown1
          have HT : Hid (stF n 49 48 (s.data.toList.take (k + 1)) = (M ++ [48], 0)) := by show _ = _; rw [HS.out, HX.out]; exact st_other HM.out (by decide)
          go_wp2_with fail
          go_region
          go_wp2_with fail
          go_roundw
          case rel => exact ⟨k + 1, 0, M ++ [48], by omega, by go_num, rfl, HT.out, ho1, hb1.drew⟩
          case measure => simp [intOf]; omega
        · clear a1 a2
          have HX : Hid (s[k] = 49) := by show _ = _; exact byte_of (n := 49) (by decide) ea
          go_wp2_with (at_builtin; refine wpList_append_own _ rfl _ _ 53 rfl w.heap.size 5 i0 (.int .u8 0) 1 1 Try.underlying53 hi hz0 hz1 hz2 rfl (by decide) _ _ _ rfl (hown.alloc _) ⟨wr.heap.size, 0, none⟩ 1 1 [.int .u8 49] rfl rfl ?c1 ?c2 ?c3 ?c4 ?c5 ?_)
          case c1 => exact c1_one _ _ _
          case c2 => intro u hu; simp at hu; subst hu; rfl
          case c3 => unfold maxLen; simp; omega
          case c4 => simp; omega
          case c5 => have := hb.size; simp at this ⊢; omega
          intro v1 w1 hown1 hgrow1 _
          have hb1 := below_app hb hb.size hown hgrow1
          have ho1 : w1.ownsRow w.heap.size 5 1 v1 (M ++ [49]).length (byteVals (M ++ [49])) := by rw [← byteVals_snoc, List.length_append]; exact hown1
          obtain ⟨q0, q1⟩ := sv_cells (HO.out.keep hb1)
          clear hown hgrow1 hb hown1
          by_cases hr : r + 1 = n
          · have HT : Hid (stF n 49 48 (s.data.toList.take (k + 1)) = ((M ++ [49]) ++ [48], 0)) := by show _ = _; rw [HS.out, HX.out]; exact st_full HM.out hr
            have hr1 : ((r : Int) + 1 == (n : Int)) = true := beq_t (by omega)
            go_wp2_with fail
            go_region
            have ho2 := ho1.drew
            have hb2 := hb1.drew
            go_wp2_with (at_builtin; refine wpList_append_own _ rfl _ _ 53 rfl w.heap.size 5 i0 (.int .u8 0) 1 1 Try.underlying53 hi hz0 hz1 hz2 rfl (by decide) _ _ _ rfl (ho2.alloc _) ⟨w1.drew.heap.size, 0, none⟩ 1 1 [.int .u8 48] rfl rfl ?c1 ?c2 ?c3 ?c4 ?c5 ?_)
            case c1 => exact c1_one _ _ _
            case c2 => intro u hu; simp at hu; subst hu; rfl
            case c3 => unfold maxLen; simp; omega
            case c4 => simp; omega
            case c5 => have := hb2.size; simp at this ⊢; omega
            intro v2 w2 hown2 hgrow2 _
            have hb3 := below_app hb2 hb2.size ho2 hgrow2
            have ho3 : w2.ownsRow w.heap.size 5 1 v2 ((M ++ [49]) ++ [48]).length (byteVals ((M ++ [49]) ++ [48])) := by rw [← byteVals_snoc]; simpa using hown2
            clear ho1 ho2 hown2 hgrow2 q0 q1
            go_wp2_with fail
            go_roundw
            case rel => exact ⟨k + 1, 0, (M ++ [49]) ++ [48], by omega, by go_num, rfl, HT.out, ho3, hb3⟩
            case measure => simp [intOf]; omega
          · have HT : Hid (stF n 49 48 (s.data.toList.take (k + 1)) = (M ++ [49], r + 1)) := by show _ = _; rw [HS.out, HX.out]; exact st_digit HM.out hr
            have hr1 : ((r : Int) + 1 == (n : Int)) = false := beq_f (by omega)
            go_wp2_with fail
            go_region
            go_wp2_with fail
            go_roundw
            case rel => exact ⟨k + 1, r + 1, M ++ [49], by omega, by go_num, by go_num, HT.out, ho1, hb1.drew⟩
            case measure => simp [intOf]; omega
      · have hcv := conv_own hown
        have HE : Hid (stF n 49 48 s.data.toList = (M, r)) := by show _ = _; rw [← HALL.out k hlt]; exact HM.out
        go_wp2_with fail
        go_ret
        exact ⟨ret_str (by rw [HE.out]), hb⟩
end Go.Proofs.Ytllkojakeoennaa
