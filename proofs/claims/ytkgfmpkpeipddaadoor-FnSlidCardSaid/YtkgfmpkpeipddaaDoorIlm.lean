/- The model's blocks: sides, places, bits by columns and by rows. -/
import Derived.Test.YtkgfmpkpeipddaaDoorIlP
import Derived.Test.YtkgfmpkpeipddaaDoorBtw
import Derived.Test.YtkgfmpkpeipddaaDoorBits
import Derived.Test.YtkgfmpkpeipddaaDoorOwn
import Derived.Deep.AppendLies
namespace Go.Proofs.YtkgfmpkpeipddaaDoor
open Go Go.RowKit
set_option linter.unusedVariables false

theorem in8 (x a b : Int) (w : World) : Calls Tryd.prog 42 #[.int .i64 x, .int .i64 a, .int .i64 b] w fun e w' => e = .returned (.bool (decide (a ≤ x ∧ x ≤ b))) ∧ w = w' := by
  by_cases h : a ≤ x ∧ x ≤ b
  · rw [decide_eq_true h]; exact l00In_yes x a b w h.1 h.2
  · rw [decide_eq_false h]; exact l00In_no x a b w h
theorem is8 (x a b : Int) (w : World) : Calls Tryd.prog 43 #[.int .i64 x, .int .i64 a, .int .i64 b] w fun e w' => e = .returned (.bool (decide (a ≤ x ∧ x ≤ b))) ∧ w = w' := by
  by_cases h : a ≤ x ∧ x ≤ b
  · rw [decide_eq_true h]; exact btw_yes x a b w h.1 h.2
  · rw [decide_eq_false h]; exact btw_no x a b w h
theorem ret_bool8 {a b : Bool} (h : a = b) : (Ending.returned (.bool a) : Ending) = .returned (.bool b) := by rw [h]
/-- Whether numbers are two sides. -/
def sdB (r c : Int) : Bool := decide (1 ≤ r ∧ r ≤ 20) && decide (1 ≤ c ∧ c ≤ 20)
theorem sd_is {r c : Int} (h : sdB r c = true) : (1 ≤ r ∧ r ≤ 20) ∧ (1 ≤ c ∧ c ≤ 20) := by
  have := Bool.and_eq_true_iff.1 h
  exact ⟨of_decide_eq_true this.1, of_decide_eq_true this.2⟩
theorem sd_area {r c : Int} (h : sdB r c = true) : 1 ≤ r * c ∧ r * c ≤ 400 := by
  obtain ⟨⟨a, b⟩, c1, d⟩ := sd_is h
  constructor
  · have := Int.mul_le_mul a c1 (by omega) (by omega); omega
  · have := Int.mul_le_mul b d (by omega) (by omega); omega
theorem l08Block_any (r c : Int) (w : World) : Calls Tryd.prog 41 #[.int .i64 r, .int .i64 c] w fun e w' => e = .returned (.bool (sdB r c)) ∧ w = w' := by
  by_cases h : 1 ≤ r ∧ r ≤ 20
  · have HV : Hid (sdB r c = decide (1 ≤ c ∧ c ≤ 20)) := by show _ = _; unfold sdB; rw [decide_eq_true h]; rfl
    have HI := Lib.hid (in8 r 1 20 w)
    rw [decide_eq_true h] at HI
    clear h
    go_enter Tryd.func41, Tryd.ntmps41
    go_wp2_with fail
    refine HI.out.mono ?_; rintro e w' ⟨rfl, rfl⟩
    go_wp2_with fail
    refine (in8 c 1 20 _).mono ?_; rintro e w' ⟨rfl, rfl⟩
    go_wp2_with fail
    go_ret
    exact ⟨ret_bool8 (by have := HV.out; rw [this]; first | done | simp), rfl⟩
  · have HV : Hid (sdB r c = false) := by show _ = _; unfold sdB; rw [decide_eq_false h]; rfl
    have HI := Lib.hid (in8 r 1 20 w)
    rw [decide_eq_false h] at HI
    clear h
    go_enter Tryd.func41, Tryd.ntmps41
    go_wp2_with fail
    refine HI.out.mono ?_; rintro e w' ⟨rfl, rfl⟩
    go_wp2_with fail
    go_ret
    exact ⟨ret_bool8 (by have := HV.out; rw [this]; first | done | simp), rfl⟩
/-- Whether bits fit a block. -/
def blkOk (r c : Int) (l : List UInt8) : Bool := sdB r c && isB l && decide ((l.length : Int) = r * c)
def blkV (r c : Int) (l : List UInt8) : ByteArray := if blkOk r c l then ⟨(blkL r.toNat c.toNat l).toArray⟩ else ⟨#[]⟩
theorem l08Fits_any (r c : Int) (s : ByteArray) (w : World) (hs : s.size ≤ maxLen) : Calls Tryd.prog 35 #[.int .i64 r, .int .i64 c, .string s] w fun e w' => e = .returned (.bool (blkOk r c s.data.toList)) ∧ w = w' := by
  have HT := Lib.hid (l01Bits_any s w hs)
  have HB := Lib.hid (l08Block_any r c w)
  cases g0 : sdB r c
  · have HV : Hid (blkOk r c s.data.toList = false) := by show _ = _; unfold blkOk; rw [g0]; rfl
    rw [g0] at HB
    clear g0 hs
    go_enter Tryd.func35, Tryd.ntmps35
    go_wp2_with fail
    refine HB.out.mono ?_; rintro e w' ⟨rfl, rfl⟩
    go_wp2_with fail
    go_ret
    exact ⟨ret_bool8 HV.out.symm, rfl⟩
  · rw [g0] at HB
    cases g1 : isB s.data.toList
    · have HV : Hid (blkOk r c s.data.toList = false) := by show _ = _; unfold blkOk; rw [g0, g1]; rfl
      rw [g1] at HT
      clear g0 g1 hs
      go_enter Tryd.func35, Tryd.ntmps35
      go_wp2_with fail
      refine HB.out.mono ?_; rintro e w' ⟨rfl, rfl⟩
      go_wp2_with fail
      refine HT.out.mono ?_; rintro e w' ⟨rfl, rfl⟩
      go_wp2_with fail
      go_ret
      exact ⟨ret_bool8 HV.out.symm, rfl⟩
    · rw [g1] at HT
      obtain ⟨a1, a2⟩ := sd_area g0
      obtain ⟨P, hP⟩ : ∃ P, P = r * c := ⟨_, rfl⟩
      have hw : IntKind.i64.wrap (r * c) = P := by rw [hP]; exact IntWalk.i64_in _ (by omega)
      have HV : Hid (blkOk r c s.data.toList = decide ((s.size : Int) = P)) := by show _ = _; unfold blkOk; rw [g0, g1, hP]; rfl
      clear g0 g1 hs a1 a2 hP
      go_enter Tryd.func35, Tryd.ntmps35
      go_wp2_with fail
      refine HB.out.mono ?_; rintro e w' ⟨rfl, rfl⟩
      go_wp2_with fail
      refine HT.out.mono ?_; rintro e w' ⟨rfl, rfl⟩
      go_wp2_with fail
      go_ret
      refine ⟨?_, rfl⟩
      rw [HV.out]
      rfl
theorem blk_no {r c : Int} {l : List UInt8} (h : blkOk r c l = false) : blkV r c l = ⟨#[]⟩ := by unfold blkV; rw [h]; rfl
theorem blk_yes {r c : Int} {l : List UInt8} (h : blkOk r c l = true) : blkV r c l = ⟨(blkL r.toNat c.toNat l).toArray⟩ := by unfold blkV; rw [h]; rfl
theorem blk_is {r c : Int} {l : List UInt8} (h : blkOk r c l = true) : ∃ R C : Nat, r = R ∧ c = C ∧ 1 ≤ R ∧ R ≤ 20 ∧ 1 ≤ C ∧ C ≤ 20 ∧ l.length = R * C ∧ isB l = true := by
  unfold blkOk at h
  have h1 := Bool.and_eq_true_iff.1 h
  have h2 := Bool.and_eq_true_iff.1 h1.1
  obtain ⟨⟨a, b⟩, c1, d⟩ := sd_is h2.1
  obtain ⟨R, rfl⟩ := Int.eq_ofNat_of_zero_le (show 0 ≤ r by omega)
  obtain ⟨C, rfl⟩ := Int.eq_ofNat_of_zero_le (show 0 ≤ c by omega)
  refine ⟨R, C, rfl, rfl, by omega, by omega, by omega, by omega, ?_, h2.2⟩
  have := of_decide_eq_true h1.2
  rw [← Int.natCast_mul] at this
  omega

theorem sd_comm (r c : Int) : sdB r c = sdB c r := by unfold sdB; rw [Bool.and_comm]
theorem blk_comm (r c : Int) (l : List UInt8) : blkOk r c l = blkOk c r l := by unfold blkOk; rw [sd_comm, Int.mul_comm]

set_option maxRecDepth 100000 in
set_option maxHeartbeats 1000000 in
theorem blockI_spec (r c : Int) (s : ByteArray) (w : World) (hs : s.size ≤ maxLen) :
    Calls Tryd.prog 14 #[.int .i64 r, .int .i64 c, .string s] w fun e w' => e = .returned (.tuple #[.string (blkV r c s.data.toList), .bool (blkOk r c s.data.toList)]) ∧ Below w.heap.size w w' := by
  have HF := Lib.hid (l08Fits_any r c s w hs)
  cases g0 : blkOk r c s.data.toList
  · rw [blk_no g0]
    rw [g0] at HF
    clear g0 hs
    go_enter Tryd.func14, Tryd.ntmps14
    go_wp2_with fail
    refine HF.out.mono ?_; rintro e w' ⟨rfl, rfl⟩
    go_wp2_with fail
    go_ret2
    exact ⟨rfl, Below.refl _ _⟩
  · rw [blk_yes g0]
    rw [g0] at HF
    obtain ⟨i0, hi, hz0, hz1, hz2⟩ := info_parts Tryd.infoByte
    obtain ⟨R, C, rfl, rfl, r1, r2, c1, c2, hlen, -⟩ := blk_is g0
    have hsz : s.size = R * C := hlen
    have hRC : R * C ≤ 400 := Nat.mul_le_mul r2 c2
    have HLEN := Lib.hid hsz
    rw [Int.toNat_natCast, Int.toNat_natCast]
    have HIN := Lib.hid (fun a b (ha : a < C) (hb : b < R) => blk_in ha hb)
    have HSN := Lib.hid (blkT_snoc R C s.data.toList)
    have HNX := Lib.hid (blkT_next R C s.data.toList)
    have HTL := Lib.hid (blkT_len R C s.data.toList)
    have HALL : Hid (blkT R C s.data.toList (C * R + 0) = blkL R C s.data.toList) := by show _ = _; unfold blkL; rw [Nat.add_zero, Nat.mul_comm]
    have HGD : Hid (∀ i (h : i < s.size), s.data.toList.getD i 0 = s[i]) := by
      show ∀ i (h : i < s.size), _
      intro i h
      have h' : i < s.data.toList.length := h
      rw [List.getD_eq_getElem?_getD, List.getElem?_eq_getElem h']; rfl
    have HMB : Hid (∀ a, a ≤ 20 → a * R ≤ 400) := by show ∀ _, _; intro a ha; have := Nat.mul_le_mul ha r2; omega
    clear g0 hlen hs hsz
    go_enter Tryd.func14, Tryd.ntmps14
    go_wp2_with fail
    refine HF.out.mono ?_; rintro e w' ⟨rfl, rfl⟩
    go_wp2_with fail
    go_loopw [8, 9] (fun v i wr => ∃ k : Nat, k ≤ C ∧ i = .int .i64 k ∧ wr.ownsRow w.heap.size 5 1 v (k * R + 0) (byteVals (blkT R C s.data.toList (k * R + 0))) ∧ Below w.heap.size w wr ∧ w.heap.size ≤ wr.heap.size) (fun _ i _ => C - (intOf i).toNat)
    case atStart => exact ⟨0, Nat.zero_le _, rfl, by simpa [blkT, byteVals] using World.ownsRow_made w #[] 0 (Nat.le_refl _) (by decide) rfl, (Below.refl _ _).alloc (Nat.le_refl _) _, by simp⟩
    case round =>
      obtain ⟨k, hk, rfl, hown, hb, hB⟩ := hrel
      have HO := Lib.hid hown
      have HB := Lib.hid hb
      clear hown hb
      by_cases hlt : k < C
      · have hk1 : (k : Int) < (C : Int) := by omega
        have hk0 : (0 : Int) ≤ (k : Int) := by omega
        have hm := HMB.out (k + 1) (by omega)
        rw [Nat.add_mul, Nat.one_mul] at hm
        obtain ⟨wo, hwo⟩ : ∃ wo, wo = wr := ⟨_, rfl⟩
        go_wp2_with fail
        go_loopw [8, 10] (fun v j wr => ∃ q : Nat, q ≤ R ∧ j = .int .i64 q ∧ wr.ownsRow w.heap.size 5 1 v (k * R + q) (byteVals (blkT R C s.data.toList (k * R + q))) ∧ Below w.heap.size w wr ∧ w.heap.size ≤ wr.heap.size) (fun _ j _ => R - (intOf j).toNat)
        case atStart => exact ⟨0, Nat.zero_le _, rfl, HO.out, HB.out, hB⟩
        case round =>
          clear hwo hB HO HB
          obtain ⟨q, hq, rfl, hown, hb, hB⟩ := hrel
          have HO := Lib.hid hown
          have HB := Lib.hid hb
          clear hown hb
          by_cases hlt2 : q < R
          · have hq1 : (q : Int) < (R : Int) := by omega
            have hq0 : (0 : Int) ≤ (q : Int) := by omega
            have hin := HIN.out k q hlt hlt2
            have hidx : q * C + k < s.size := by rw [HLEN.out]; exact hin
            obtain ⟨x, hx⟩ : ∃ x, x = s[q * C + k] := ⟨_, rfl⟩
            have HS : Hid (blkT R C s.data.toList (k * R + (q + 1)) = blkT R C s.data.toList (k * R + q) ++ [x]) := by
              show _ = _
              rw [hx, ← HGD.out (q * C + k) hidx, ← HSN.out k q hlt2]; rfl
            have hlen : k * R + q ≤ 400 := by omega
            have HL2 := Lib.hid (HTL.out (k * R + q))
            obtain ⟨X, hX⟩ : ∃ X : Int, (x.toNat : Int) = X := ⟨_, rfl⟩
            have HX := Lib.hid hX
            have e1 : IntKind.i64.wrap ((q : Int) * (C : Int)) = ((q * C : Nat) : Int) := by rw [Int.natCast_mul]; exact IntWalk.i64_in _ (by rw [← Int.natCast_mul]; omega)
            have e2 : IntKind.i64.wrap (((q * C : Nat) : Int) + (k : Int)) = ((q * C + k : Nat) : Int) := by rw [Int.natCast_add]; exact IntWalk.i64_in _ (by omega)
            obtain ⟨I, hI⟩ : ∃ I, I = q * C + k := ⟨_, rfl⟩
            rw [← hI] at e2
            have hI2 : I < s.size := by omega
            have hI3 : (I : Int) < (s.size : Int) := by omega
            have ex : ((s[I]'hI2).toNat : Int) = X := by subst hI; rw [← hx]; exact hX
            clear hX hx hin hidx hI
            generalize blkT R C s.data.toList (k * R + q) = L at *
            generalize q * C = QC at *
            go_wp2_with (at_builtin; refine wpList_append_lies _ rfl _ _ 32 rfl w.heap.size 5 i0 (.int .u8 0) 1 1 Tryd.underlying32 hi hz0 hz1 hz2 rfl (by decide) _ _ _ rfl (World.ownsRow.alloc HO.out _) ⟨wr.heap.size, 0, none⟩ 1 1 [.int .u8 X] rfl rfl ?c1 ?c2 (by decide) ?c3 ?c4 ?c5 (wr.heap.size + 1) (by simp) ?_)
            case c1 => exact c1_one _ _ _
            case c2 => intro u hu; simp at hu; subst hu; rfl
            case c3 => unfold maxLen; omega
            case c4 => omega
            case c5 => simp; omega
            intro g cap w2 hown2 hgrow hat hlt3
            have HB2 := Lib.hid (below_app HB.out HB.out.size HO.out hgrow)
            have HO2 : Hid (w2.ownsRow w.heap.size 5 1 (.slice (some ⟨g, 0, none⟩) (k * R + q + 1) cap) (k * R + (q + 1)) (byteVals (blkT R C s.data.toList (k * R + (q + 1))))) := by
              show World.ownsRow _ _ _ _ _ _ _
              rw [HS.out, ← byteVals_snoc, HX.out]; exact hown2
            clear hown2 hgrow hat hlt3
            go_wp2_with fail
            go_roundw
            case rel => exact ⟨q + 1, by omega, by go_num, HO2.out, HB2.out, HB2.out.size⟩
            case measure => simp [intOf]; omega
          · obtain rfl : q = R := by omega
            have ho2 := HO.out
            rw [HNX.out k] at ho2
            have HO2 := Lib.hid ho2
            clear ho2
            clear HO
            go_wp2_with fail
            go_roundw
            case rel => exact ⟨k + 1, by omega, by go_num, by rw [show (k + 1) * q + 0 = k * q + q by rw [Nat.add_mul, Nat.one_mul]; rfl] at *; exact HO2.out, HB.out, HB.out.size⟩
            case measure => simp [intOf]; omega
      · obtain rfl : k = C := by omega
        have ho2 := HO.out
        rw [HALL.out] at ho2
        have hcv := conv_own ho2
        clear ho2
        clear HO HSN HNX HTL HALL HGD
        go_wp2_with fail
        go_ret2
        exact ⟨rfl, HB.out⟩
set_option maxRecDepth 100000 in
set_option maxHeartbeats 1000000 in
theorem blockD_spec (r c : Int) (s : ByteArray) (w : World) (hs : s.size ≤ maxLen) :
    Calls Tryd.prog 16 #[.int .i64 c, .int .i64 r, .string s] w fun e w' => e = .returned (.tuple #[.string (blkV r c s.data.toList), .bool (blkOk r c s.data.toList)]) ∧ Below w.heap.size w w' := by
  have HF := Lib.hid (l08Fits_any c r s w hs)
  rw [blk_comm c r] at HF
  cases g0 : blkOk r c s.data.toList
  · rw [blk_no g0]
    rw [g0] at HF
    clear g0 hs
    go_enter Tryd.func16, Tryd.ntmps16
    go_wp2_with fail
    refine HF.out.mono ?_; rintro e w' ⟨rfl, rfl⟩
    go_wp2_with fail
    go_ret2
    exact ⟨rfl, Below.refl _ _⟩
  · rw [blk_yes g0]
    rw [g0] at HF
    obtain ⟨i0, hi, hz0, hz1, hz2⟩ := info_parts Tryd.infoByte
    obtain ⟨R, C, rfl, rfl, r1, r2, c1, c2, hlen, -⟩ := blk_is g0
    have hsz : s.size = R * C := hlen
    have hRC : R * C ≤ 400 := Nat.mul_le_mul r2 c2
    have HLEN := Lib.hid hsz
    rw [Int.toNat_natCast, Int.toNat_natCast]
    have HIN := Lib.hid (fun a b (ha : a < C) (hb : b < R) => blk_in ha hb)
    have HSN := Lib.hid (blkT_snoc R C s.data.toList)
    have HNX := Lib.hid (blkT_next R C s.data.toList)
    have HTL := Lib.hid (blkT_len R C s.data.toList)
    have HALL : Hid (blkT R C s.data.toList (C * R + 0) = blkL R C s.data.toList) := by show _ = _; unfold blkL; rw [Nat.add_zero, Nat.mul_comm]
    have HGD : Hid (∀ i (h : i < s.size), s.data.toList.getD i 0 = s[i]) := by
      show ∀ i (h : i < s.size), _
      intro i h
      have h' : i < s.data.toList.length := h
      rw [List.getD_eq_getElem?_getD, List.getElem?_eq_getElem h']; rfl
    have HMB : Hid (∀ a, a ≤ 20 → a * R ≤ 400) := by show ∀ _, _; intro a ha; have := Nat.mul_le_mul ha r2; omega
    clear g0 hlen hs hsz
    go_enter Tryd.func16, Tryd.ntmps16
    go_wp2_with fail
    refine HF.out.mono ?_; rintro e w' ⟨rfl, rfl⟩
    go_wp2_with fail
    go_loopw [8, 9] (fun v i wr => ∃ k : Nat, k ≤ C ∧ i = .int .i64 k ∧ wr.ownsRow w.heap.size 5 1 v (k * R + 0) (byteVals (blkT R C s.data.toList (k * R + 0))) ∧ Below w.heap.size w wr ∧ w.heap.size ≤ wr.heap.size) (fun _ i _ => C - (intOf i).toNat)
    case atStart => exact ⟨0, Nat.zero_le _, rfl, by simpa [blkT, byteVals] using World.ownsRow_made w #[] 0 (Nat.le_refl _) (by decide) rfl, (Below.refl _ _).alloc (Nat.le_refl _) _, by simp⟩
    case round =>
      obtain ⟨k, hk, rfl, hown, hb, hB⟩ := hrel
      have HO := Lib.hid hown
      have HB := Lib.hid hb
      clear hown hb
      by_cases hlt : k < C
      · have hk1 : (k : Int) < (C : Int) := by omega
        have hk0 : (0 : Int) ≤ (k : Int) := by omega
        have hm := HMB.out (k + 1) (by omega)
        rw [Nat.add_mul, Nat.one_mul] at hm
        obtain ⟨wo, hwo⟩ : ∃ wo, wo = wr := ⟨_, rfl⟩
        go_wp2_with fail
        go_loopw [8, 10] (fun v j wr => ∃ q : Nat, q ≤ R ∧ j = .int .i64 q ∧ wr.ownsRow w.heap.size 5 1 v (k * R + q) (byteVals (blkT R C s.data.toList (k * R + q))) ∧ Below w.heap.size w wr ∧ w.heap.size ≤ wr.heap.size) (fun _ j _ => R - (intOf j).toNat)
        case atStart => exact ⟨0, Nat.zero_le _, rfl, HO.out, HB.out, hB⟩
        case round =>
          clear hwo hB HO HB
          obtain ⟨q, hq, rfl, hown, hb, hB⟩ := hrel
          have HO := Lib.hid hown
          have HB := Lib.hid hb
          clear hown hb
          by_cases hlt2 : q < R
          · have hq1 : (q : Int) < (R : Int) := by omega
            have hq0 : (0 : Int) ≤ (q : Int) := by omega
            have hin := HIN.out k q hlt hlt2
            have hidx : q * C + k < s.size := by rw [HLEN.out]; exact hin
            obtain ⟨x, hx⟩ : ∃ x, x = s[q * C + k] := ⟨_, rfl⟩
            have HS : Hid (blkT R C s.data.toList (k * R + (q + 1)) = blkT R C s.data.toList (k * R + q) ++ [x]) := by
              show _ = _
              rw [hx, ← HGD.out (q * C + k) hidx, ← HSN.out k q hlt2]; rfl
            have hlen : k * R + q ≤ 400 := by omega
            have HL2 := Lib.hid (HTL.out (k * R + q))
            obtain ⟨X, hX⟩ : ∃ X : Int, (x.toNat : Int) = X := ⟨_, rfl⟩
            have HX := Lib.hid hX
            have e1 : IntKind.i64.wrap ((q : Int) * (C : Int)) = ((q * C : Nat) : Int) := by rw [Int.natCast_mul]; exact IntWalk.i64_in _ (by rw [← Int.natCast_mul]; omega)
            have e2 : IntKind.i64.wrap (((q * C : Nat) : Int) + (k : Int)) = ((q * C + k : Nat) : Int) := by rw [Int.natCast_add]; exact IntWalk.i64_in _ (by omega)
            obtain ⟨I, hI⟩ : ∃ I, I = q * C + k := ⟨_, rfl⟩
            rw [← hI] at e2
            have hI2 : I < s.size := by omega
            have hI3 : (I : Int) < (s.size : Int) := by omega
            have ex : ((s[I]'hI2).toNat : Int) = X := by subst hI; rw [← hx]; exact hX
            clear hX hx hin hidx hI
            generalize blkT R C s.data.toList (k * R + q) = L at *
            generalize q * C = QC at *
            go_wp2_with (at_builtin; refine wpList_append_lies _ rfl _ _ 32 rfl w.heap.size 5 i0 (.int .u8 0) 1 1 Tryd.underlying32 hi hz0 hz1 hz2 rfl (by decide) _ _ _ rfl (World.ownsRow.alloc HO.out _) ⟨wr.heap.size, 0, none⟩ 1 1 [.int .u8 X] rfl rfl ?c1 ?c2 (by decide) ?c3 ?c4 ?c5 (wr.heap.size + 1) (by simp) ?_)
            case c1 => exact c1_one _ _ _
            case c2 => intro u hu; simp at hu; subst hu; rfl
            case c3 => unfold maxLen; omega
            case c4 => omega
            case c5 => simp; omega
            intro g cap w2 hown2 hgrow hat hlt3
            have HB2 := Lib.hid (below_app HB.out HB.out.size HO.out hgrow)
            have HO2 : Hid (w2.ownsRow w.heap.size 5 1 (.slice (some ⟨g, 0, none⟩) (k * R + q + 1) cap) (k * R + (q + 1)) (byteVals (blkT R C s.data.toList (k * R + (q + 1))))) := by
              show World.ownsRow _ _ _ _ _ _ _
              rw [HS.out, ← byteVals_snoc, HX.out]; exact hown2
            clear hown2 hgrow hat hlt3
            go_wp2_with fail
            go_roundw
            case rel => exact ⟨q + 1, by omega, by go_num, HO2.out, HB2.out, HB2.out.size⟩
            case measure => simp [intOf]; omega
          · obtain rfl : q = R := by omega
            have ho2 := HO.out
            rw [HNX.out k] at ho2
            have HO2 := Lib.hid ho2
            clear ho2
            clear HO
            go_wp2_with fail
            go_roundw
            case rel => exact ⟨k + 1, by omega, by go_num, by rw [show (k + 1) * q + 0 = k * q + q by rw [Nat.add_mul, Nat.one_mul]; rfl] at *; exact HO2.out, HB.out, HB.out.size⟩
            case measure => simp [intOf]; omega
      · obtain rfl : k = C := by omega
        have ho2 := HO.out
        rw [HALL.out] at ho2
        have hcv := conv_own ho2
        clear ho2
        clear HO HSN HNX HTL HALL HGD
        go_wp2_with fail
        go_ret2
        exact ⟨rfl, HB.out⟩
end Go.Proofs.YtkgfmpkpeipddaaDoor
