/- The model unstuffs bits: l04Unstuff. -/
import Derived.Test.YtllkojakeoennaaStb
import Derived.Deep.RegionHeld3
namespace Go.Proofs.Ytllkojakeoennaa
open Go Go.RowKit
set_option linter.unusedVariables false

theorem unF_in (lo hi : Int) (n : Nat) (d : UInt8) (l : List UInt8) (h : inR lo hi l = true) : inR lo hi (unF n d l).1 = true := by
  induction l using snocInd with
  | nil => rfl
  | snoc l x ih =>
    rw [inR_append] at h
    obtain ⟨h1, h2⟩ := Bool.and_eq_true_iff.1 h
    rw [unF_snoc]; unfold unStep
    split
    · exact ih h1
    · simp only; rw [inR_append, ih h1, h2]; rfl
theorem un_skip {n : Nat} {d x : UInt8} {L M : List UInt8} {r : Nat} (h : unF n d L = (M, r)) (hr : r = n) : unStep n d (unF n d L) x = (M, 0) := by rw [h]; simp [unStep, hr]
theorem un_other {n : Nat} {d x : UInt8} {L M : List UInt8} {r : Nat} (h : unF n d L = (M, r)) (hr : ¬ r = n) (hx : x ≠ d) : unStep n d (unF n d L) x = (M ++ [x], 0) := by rw [h]; simp [unStep, hr, hx]
theorem un_digit {n : Nat} {d : UInt8} {L M : List UInt8} {r : Nat} (h : unF n d L = (M, r)) (hr : ¬ r = n) : unStep n d (unF n d L) d = (M ++ [d], r + 1) := by rw [h]; simp [unStep, hr]
theorem ba_ext {s : ByteArray} {l : List UInt8} : (⟨l.toArray⟩ : ByteArray) = s ↔ l = s.data.toList := by
  constructor
  · intro e; rw [← e]
  · intro e; apply ByteArray.ext; rw [e]
theorem unF_size (n : Nat) (d : UInt8) (s : ByteArray) (hs : s.size ≤ 400) : (⟨(unF n d s.data.toList).1.toArray⟩ : ByteArray).size ≤ 400 := by
  have := unF_len n d s.data.toList
  have h2 : s.data.toList.length = s.size := by simp
  simp only [ByteArray.size, List.size_toArray] at *
  omega
theorem row_keep {w w' : World} {base n : Nat} {e : TypeId} {v : Value} {xs : List Value} (h : w.ownsRow base e 1 v n xs) (hb : Below w.heap.size w w') : w'.ownsRow base e 1 v n xs :=
  h.kept (row := none) ⟨hb.os, hb.tape, hb.output, hb.size, fun j hj _ => hb.block j hj⟩ (by cases v.ownBlock <;> simp)
theorem ba_toList (s : ByteArray) : s.toList = s.data.toList := ByteArray.toList_eq s
theorem ret_sbv {a b : ByteArray} {c d : Bool} (h : a = b) (h2 : c = d) : Ending.returned (.tuple #[.string a, .bool c]) = .returned (.tuple #[.string b, .bool d]) := by rw [h, h2]
set_option maxRecDepth 100000 in
set_option maxHeartbeats 2000000 in
theorem l04Unstuff_any (w : World) (q n : Nat) (b : Int) (d o : UInt8) (s : ByteArray) (hd : Dg b d o) (hn : 1 ≤ n ∧ n ≤ 10) (hs : s.size ≤ 400) (hin : inR 48 49 s.data.toList = true) (h : Bk w q (sV n b)) :
    Calls Try.prog 57 #[.pointer (some ⟨q, 0, none⟩), .string s] w fun e w' => e = .returned (.tuple #[.string ⟨(unF n d s.data.toList).1.toArray⟩, .bool (unOk n d o s.data.toList)]) ∧ Below w.heap.size w w' := by
  obtain ⟨i0, hi, hz0, hz1, hz2⟩ := info_parts Try.infoByte
  have HO := Lib.hid h
  have HIN := Lib.hid hin
  have HL := Lib.hid (fun k => unF_len n d (s.data.toList.take k))
  have HST := Lib.hid (fun k hk => unF_take n d s k hk)
  have HRUN := Lib.hid (fun k => unF_run n d (s.data.toList.take k))
  have HALL := Lib.hid (fun k hk => take_all s k hk)
  have HSB := Lib.hid (fun W (hk : Bk W q (sV n b)) => l04Stuff_any W q n b d o ⟨(unF n d s.data.toList).1.toArray⟩ hd hn (unF_size n d s hs) (unF_in _ _ _ _ _ hin) hk)
  have HOK : Hid (unOk n d o s.data.toList = decide ((stF n d o (unF n d s.data.toList).1).1 = s.data.toList)) := rfl
  obtain ⟨n1, n2⟩ := hn
  clear h hin
  rcases hd with ⟨rfl, rfl, rfl⟩ | ⟨rfl, rfl, rfl⟩
  · go_enter Try.func57, Try.ntmps57
    go_wp2_with fail
    go_loopw [6, 7, 8] (fun v u i wr => ∃ (k r : Nat) (M : List UInt8), k ≤ s.size ∧ i = .int .i64 k ∧ u = .int .i64 r ∧ unF n 48 (s.data.toList.take k) = (M, r) ∧ wr.ownsRow w.heap.size 5 1 v M.length (byteVals M) ∧ Below w.heap.size w wr) (fun _ _ i _ => s.size - (intOf i).toNat)
    case atStart => exact ⟨0, 0, [], Nat.zero_le _, rfl, rfl, by simp [unF], World.ownsRow_made w #[] 0 (Nat.le_refl _) (by decide) rfl, (Below.refl _ _).alloc (Nat.le_refl _) _⟩
    case round =>
      obtain ⟨k, r, M, hk, rfl, rfl, hst, hown, hb⟩ := hrel
      have HM := Lib.hid hst
      have hlen : M.length ≤ 400 := by have := HL.out k; rw [hst] at this; simp at this; omega
      have hrun : r ≤ n := by have := HRUN.out k; rw [hst] at this; exact this
      clear hst
      by_cases hlt : k < s.size
      · obtain ⟨a1, a2⟩ := inR_at 48 49 s k hlt HIN.out
        have HS := Lib.hid (HST.out k hlt)
        obtain ⟨q0, q1⟩ := sv_cells (HO.out.keep hb)
        by_cases hrn : r = n
        · have HT : Hid (unF n 48 (s.data.toList.take (k + 1)) = (M, 0)) := by show _ = _; rw [HS.out]; exact un_skip HM.out hrn
          have hr0 : ((r : Int) == (n : Int)) = true := beq_t (by omega)
          clear a1 a2
          go_wp2_with fail
          go_roundw
          case rel => exact ⟨k + 1, 0, M, by omega, by go_num, rfl, HT.out, hown, hb⟩
          case measure => simp [intOf]; omega
        · have hr0 : ((r : Int) == (n : Int)) = false := beq_f (by omega)
          rcases (show (s[k].toNat : Int) = 48 ∨ (s[k].toNat : Int) = 49 from by omega) with ea | ea
          · clear a1 a2
            have HX : Hid (s[k] = 48) := by show _ = _; exact byte_of (n := 48) (by decide) ea
            go_wp2_with (at_builtin; refine wpList_append_own _ rfl _ _ 53 rfl w.heap.size 5 i0 (.int .u8 0) 1 1 Try.underlying53 hi hz0 hz1 hz2 rfl (by decide) _ _ _ rfl (hown.alloc _) ⟨wr.heap.size, 0, none⟩ 1 1 [.int .u8 48] rfl rfl ?c1 ?c2 ?c3 ?c4 ?c5 ?_)
            case c1 => exact c1_one _ _ _
            case c2 => intro u hu; simp at hu; subst hu; rfl
            case c3 => unfold maxLen; simp; omega
            case c4 => simp; omega
            case c5 => have := hb.size; simp at this ⊢; omega
            intro v1 w1 hown1 hgrow1 _
            have hb1 := below_app hb hb.size hown hgrow1
            have ho1 : w1.ownsRow w.heap.size 5 1 v1 (M ++ [48]).length (byteVals (M ++ [48])) := by rw [← byteVals_snoc, List.length_append]; exact hown1
            clear q0 q1
            obtain ⟨q0, q1⟩ := sv_cells (HO.out.keep hb1)
            clear hown hgrow1 hb hown1
            have HT : Hid (unF n 48 (s.data.toList.take (k + 1)) = (M ++ [48], r + 1)) := by show _ = _; rw [HS.out, HX.out]; exact un_digit HM.out hrn
            go_wp2_with fail
            go_region
            go_wp2_with fail
            go_roundw
            case rel => exact ⟨k + 1, r + 1, M ++ [48], by omega, by go_num, by go_num, HT.out, ho1, hb1.drew⟩
            case measure => simp [intOf]; omega
          · clear a1 a2
            have HX : Hid (s[k] = 49) := by show _ = _; exact byte_of (n := 49) (by decide) ea
            go_wp2_with (at_builtin; refine wpList_append_own _ rfl _ _ 53 rfl w.heap.size 5 i0 (.int .u8 0) 1 1 Try.underlying53 hi hz0 hz1 hz2 rfl (by decide) _ _ _ rfl (hown.alloc _) ⟨wr.heap.size, 0, none⟩ 1 1 [.int .u8 49] rfl rfl ?c1 ?c2 ?c3 ?c4 ?c5 ?_)
            case c1 => exact c1_one _ _ _
            case c2 => intro u hu; simp at hu; subst hu; rfl
            case c3 => unfold maxLen; simp; omega
            case c4 => simp; omega
            case c5 => have := hb.size; simp at this ⊢; omega
            intro v1 w1 hown1 hgrow1 _
            have hb1 := below_app hb hb.size hown hgrow1
            have ho1 : w1.ownsRow w.heap.size 5 1 v1 (M ++ [49]).length (byteVals (M ++ [49])) := by rw [← byteVals_snoc, List.length_append]; exact hown1
            clear q0 q1
            obtain ⟨q0, q1⟩ := sv_cells (HO.out.keep hb1)
            clear hown hgrow1 hb hown1
            have HT : Hid (unF n 48 (s.data.toList.take (k + 1)) = (M ++ [49], 0)) := by show _ = _; rw [HS.out, HX.out]; exact un_other HM.out hrn (by decide)
            go_wp2_with fail
            go_region
            go_wp2_with fail
            go_roundw
            case rel => exact ⟨k + 1, 0, M ++ [49], by omega, by go_num, rfl, HT.out, ho1, hb1.drew⟩
            case measure => simp [intOf]; omega
      · have HE : Hid (unF n 48 s.data.toList = (M, r)) := by show _ = _; rw [← HALL.out k hlt]; exact HM.out
        have hk0 := HO.out.keep hb
        have e0 := HSB.out
        have e1 := HOK.out
        rw [HE.out] at e0 e1
        simp only at e0 e1
        have HCV := Lib.hid (fun (W : World) (hr : W.ownsRow w.heap.size 5 1 u6 M.length (byteVals M)) => conv_own hr)
        have HG := Lib.hid e0
        have HR := Lib.hid hown.drew
        have HK := Lib.hid hk0.drew
        have HBD := Lib.hid hb.drew
        have qc := HCV.out _ HR.out
        have HOK2 := Lib.hid e1
        clear e0 e1 hk0 hown hb hi hz0 hz1 hz2
        go_wp2_with fail
        go_region_held3 (fun w' => (convert 53 9 u6).run Try.prog w' = .ok (.string ⟨M.toArray⟩) w') ((first | with_reducible exact t8 | with_reducible exact qc | fail))
          (first
            | (go_at_call 50; refine (HG.out _ HK.out).mono ?_; rintro e w8 ⟨rfl, hb8⟩; have t8 := HCV.out _ (row_keep HR.out hb8); have B8 := Lib.hid (HBD.out.trans (hb8.mono HBD.out.size)); clear hb8)
            | fail)
        all_goals go_wp2_with fail
        all_goals go_ret2
        exact ⟨ret_sbv (by rw [HE.out]) (by rw [HOK2.out, ba_toList, Bool.eq_iff_iff, beq_iff_eq, decide_eq_true_iff]), B8.out⟩
  · go_enter Try.func57, Try.ntmps57
    go_wp2_with fail
    go_loopw [6, 7, 8] (fun v u i wr => ∃ (k r : Nat) (M : List UInt8), k ≤ s.size ∧ i = .int .i64 k ∧ u = .int .i64 r ∧ unF n 49 (s.data.toList.take k) = (M, r) ∧ wr.ownsRow w.heap.size 5 1 v M.length (byteVals M) ∧ Below w.heap.size w wr) (fun _ _ i _ => s.size - (intOf i).toNat)
    case atStart => exact ⟨0, 0, [], Nat.zero_le _, rfl, rfl, by simp [unF], World.ownsRow_made w #[] 0 (Nat.le_refl _) (by decide) rfl, (Below.refl _ _).alloc (Nat.le_refl _) _⟩
    case round =>
      obtain ⟨k, r, M, hk, rfl, rfl, hst, hown, hb⟩ := hrel
      have HM := Lib.hid hst
      have hlen : M.length ≤ 400 := by have := HL.out k; rw [hst] at this; simp at this; omega
      have hrun : r ≤ n := by have := HRUN.out k; rw [hst] at this; exact this
      clear hst
      by_cases hlt : k < s.size
      · obtain ⟨a1, a2⟩ := inR_at 48 49 s k hlt HIN.out
        have HS := Lib.hid (HST.out k hlt)
        obtain ⟨q0, q1⟩ := sv_cells (HO.out.keep hb)
        by_cases hrn : r = n
        · have HT : Hid (unF n 49 (s.data.toList.take (k + 1)) = (M, 0)) := by show _ = _; rw [HS.out]; exact un_skip HM.out hrn
          have hr0 : ((r : Int) == (n : Int)) = true := beq_t (by omega)
          clear a1 a2
          go_wp2_with fail
          go_roundw
          case rel => exact ⟨k + 1, 0, M, by omega, by go_num, rfl, HT.out, hown, hb⟩
          case measure => simp [intOf]; omega
        · have hr0 : ((r : Int) == (n : Int)) = false := beq_f (by omega)
          rcases (show (s[k].toNat : Int) = 48 ∨ (s[k].toNat : Int) = 49 from by omega) with ea | ea
          · clear a1 a2
            have HX : Hid (s[k] = 48) := by show _ = _; exact byte_of (n := 48) (by decide) ea
            go_wp2_with (at_builtin; refine wpList_append_own _ rfl _ _ 53 rfl w.heap.size 5 i0 (.int .u8 0) 1 1 Try.underlying53 hi hz0 hz1 hz2 rfl (by decide) _ _ _ rfl (hown.alloc _) ⟨wr.heap.size, 0, none⟩ 1 1 [.int .u8 48] rfl rfl ?c1 ?c2 ?c3 ?c4 ?c5 ?_)
            case c1 => exact c1_one _ _ _
            case c2 => intro u hu; simp at hu; subst hu; rfl
            case c3 => unfold maxLen; simp; omega
            case c4 => simp; omega
            case c5 => have := hb.size; simp at this ⊢; omega
            intro v1 w1 hown1 hgrow1 _
            have hb1 := below_app hb hb.size hown hgrow1
            have ho1 : w1.ownsRow w.heap.size 5 1 v1 (M ++ [48]).length (byteVals (M ++ [48])) := by rw [← byteVals_snoc, List.length_append]; exact hown1
            clear q0 q1
            obtain ⟨q0, q1⟩ := sv_cells (HO.out.keep hb1)
            clear hown hgrow1 hb hown1
            have HT : Hid (unF n 49 (s.data.toList.take (k + 1)) = (M ++ [48], 0)) := by show _ = _; rw [HS.out, HX.out]; exact un_other HM.out hrn (by decide)
            go_wp2_with fail
            go_region
            go_wp2_with fail
            go_roundw
            case rel => exact ⟨k + 1, 0, M ++ [48], by omega, by go_num, rfl, HT.out, ho1, hb1.drew⟩
            case measure => simp [intOf]; omega
          · clear a1 a2
            have HX : Hid (s[k] = 49) := by show _ = _; exact byte_of (n := 49) (by decide) ea
            go_wp2_with (at_builtin; refine wpList_append_own _ rfl _ _ 53 rfl w.heap.size 5 i0 (.int .u8 0) 1 1 Try.underlying53 hi hz0 hz1 hz2 rfl (by decide) _ _ _ rfl (hown.alloc _) ⟨wr.heap.size, 0, none⟩ 1 1 [.int .u8 49] rfl rfl ?c1 ?c2 ?c3 ?c4 ?c5 ?_)
            case c1 => exact c1_one _ _ _
            case c2 => intro u hu; simp at hu; subst hu; rfl
            case c3 => unfold maxLen; simp; omega
            case c4 => simp; omega
            case c5 => have := hb.size; simp at this ⊢; omega
            intro v1 w1 hown1 hgrow1 _
            have hb1 := below_app hb hb.size hown hgrow1
            have ho1 : w1.ownsRow w.heap.size 5 1 v1 (M ++ [49]).length (byteVals (M ++ [49])) := by rw [← byteVals_snoc, List.length_append]; exact hown1
            clear q0 q1
            obtain ⟨q0, q1⟩ := sv_cells (HO.out.keep hb1)
            clear hown hgrow1 hb hown1
            have HT : Hid (unF n 49 (s.data.toList.take (k + 1)) = (M ++ [49], r + 1)) := by show _ = _; rw [HS.out, HX.out]; exact un_digit HM.out hrn
            go_wp2_with fail
            go_region
            go_wp2_with fail
            go_roundw
            case rel => exact ⟨k + 1, r + 1, M ++ [49], by omega, by go_num, by go_num, HT.out, ho1, hb1.drew⟩
            case measure => simp [intOf]; omega
      · have HE : Hid (unF n 49 s.data.toList = (M, r)) := by show _ = _; rw [← HALL.out k hlt]; exact HM.out
        have hk0 := HO.out.keep hb
        have e0 := HSB.out
        have e1 := HOK.out
        rw [HE.out] at e0 e1
        simp only at e0 e1
        have HCV := Lib.hid (fun (W : World) (hr : W.ownsRow w.heap.size 5 1 u6 M.length (byteVals M)) => conv_own hr)
        have HG := Lib.hid e0
        have HR := Lib.hid hown.drew
        have HK := Lib.hid hk0.drew
        have HBD := Lib.hid hb.drew
        have qc := HCV.out _ HR.out
        have HOK2 := Lib.hid e1
        clear e0 e1 hk0 hown hb hi hz0 hz1 hz2
        go_wp2_with fail
        go_region_held3 (fun w' => (convert 53 9 u6).run Try.prog w' = .ok (.string ⟨M.toArray⟩) w') ((first | with_reducible exact t8 | with_reducible exact qc | fail))
          (first
            | (go_at_call 50; refine (HG.out _ HK.out).mono ?_; rintro e w8 ⟨rfl, hb8⟩; have t8 := HCV.out _ (row_keep HR.out hb8); have B8 := Lib.hid (HBD.out.trans (hb8.mono HBD.out.size)); clear hb8)
            | fail)
        all_goals go_wp2_with fail
        all_goals go_ret2
        exact ⟨ret_sbv (by rw [HE.out]) (by rw [HOK2.out, ba_toList, Bool.eq_iff_iff, beq_iff_eq, decide_eq_true_iff]), B8.out⟩
end Go.Proofs.Ytllkojakeoennaa
