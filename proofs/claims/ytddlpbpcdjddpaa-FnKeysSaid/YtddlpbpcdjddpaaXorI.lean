/- The program's XorBits, and the walk of its law. -/
import Derived.Test.YtddlpbpcdjddpaaXor
namespace Go.Proofs.Ytddlpbpcdjddpaa
open Go Go.RowKit
set_option linter.unusedVariables false

set_option maxRecDepth 100000 in
theorem xor_yes_impl (a b : ByteArray) (w : World) (ha : isB a.data.toList = true) (hb : isB b.data.toList = true) (hab : a.size = b.size) :
    Calls Try.prog 30 #[.string a, .string b] w fun e w' => e = .returned (.tuple #[.string ⟨(xorB a.data.toList b.data.toList a.size).toArray⟩, .bool true]) ∧ Below w.heap.size w w' := by
  obtain ⟨i0, hi, hz0, hz1, hz2⟩ := info_parts Try.infoByte
  have pa := isB_parts ha
  have pb := isB_parts hb
  have la : a.size ≤ 400 := by simpa using pa.1
  have lb : b.size ≤ 400 := by simpa using pb.1
  have PA := Lib.hid pa.2
  have PB := Lib.hid pb.2
  have hne : ((a.size : Int) != (b.size : Int)) = false := bne_f (by omega)
  have HAB := Lib.hid hab
  clear pa pb hab
  go_enter Try.func30, Try.ntmps30
  go_wp2_with fail
  refine (isBits_any _ _ (by unfold maxLen; omega)).mono ?_; rintro e w1 ⟨rfl, hb1⟩
  go_wp2_with fail
  refine (isBits_any _ _ (by unfold maxLen; omega)).mono ?_; rintro e w2 ⟨rfl, hb2⟩
  have hbb : Below w.heap.size w w2 := hb1.trans (hb2.mono hb1.size)
  clear hb1 hb2
  go_wp2_with (at_make; refine wpList_make_full _ rfl _ _ 41 rfl w2.heap.size 5 i0 (.int .u8 0) 1 Try.underlying41 hi hz0 hz1 _ _ _ _ a.size rfl rfl rfl rfl ?b2 ?b3 (Nat.le_refl _) ?_)
  case b2 => rw [hz2]; omega
  case b3 => unfold maxLen; omega
  intro w3 hown hgrow
  have hb3 : Below w.heap.size w w3 := hbb.grown hgrow hbb.size (by simp)
  rw [toList_madeCells_one, ← xpart_zero a.data.toList b.data.toList a.size] at hown
  have hBB := hbb.size
  clear hgrow hbb ha hb
  go_wp2_with fail
  go_loopw [7, 28] (fun _ i wr => ∃ j : Nat, j ≤ a.size ∧ i = .int .i64 j ∧ wr.ownsRow w2.heap.size 5 1 (.slice (some ⟨w2.heap.size, 0, none⟩) a.size a.size) a.size (xpart a.data.toList b.data.toList a.size j) ∧ Below w.heap.size w wr) (fun _ i _ => a.size - (intOf i).toNat)
  case atStart => exact ⟨0, Nat.zero_le _, rfl, hown, hb3⟩
  case round =>
    obtain ⟨k, hk, rfl, hown1, hb⟩ := hrel
    clear hown hb3
    by_cases hlt : k < a.size
    · have hltb : k < b.size := by have := HAB.out; omega
      obtain ⟨a1, a2⟩ := inR_at 48 49 a k hlt PA.out
      obtain ⟨b1, b2⟩ := inR_at 48 49 b k hltb PB.out
      have f2 : IntKind.u8.wrap 48 = 48 := by decide
      have f3 : IntKind.u8.wrap 49 = 49 := by decide
      have x0 : bits .xor .u8 48 48 = 0 := by decide
      have x1 : bits .xor .u8 48 49 = 1 := by decide
      have x2 : bits .xor .u8 49 48 = 1 := by decide
      have x3 : bits .xor .u8 49 49 = 0 := by decide
      have hfr := hown1.frozenAt k
      have hcl := hown1.cellAt k (by omega)
      obtain ⟨u, hu⟩ : ∃ u, (xpart a.data.toList b.data.toList a.size k)[k]? = some u := ⟨_, List.getElem?_eq_getElem (by simp [xpart, byteVals_length, xorB_length]; omega)⟩
      rw [hu] at hcl
      clear hu
      have e1 : a.data.toList[k]? = some a[k] := by rw [List.getElem?_eq_getElem (by simpa using hlt)]; rfl
      have e2 : b.data.toList[k]? = some b[k] := by rw [List.getElem?_eq_getElem (by simpa using hltb)]; rfl
      have E1 := Lib.hid e1
      have E2 := Lib.hid e2
      clear e1 e2
      have hk0 : (0 : Int) ≤ (k : Int) := by omega
      have hk1 : (k : Int) < (a.size : Int) := by omega
      have hk2 : (k : Int) < (b.size : Int) := by omega
      rcases (show (a[k].toNat : Int) = 48 ∨ (a[k].toNat : Int) = 49 from by omega) with ea | ea
      · rcases (show (b[k].toNat : Int) = 48 ∨ (b[k].toNat : Int) = 49 from by omega) with eb | eb
        · have hst := (hown1.stored k (.int .u8 ((48 : UInt8).toNat : Int))).1
          rw [xpart_set _ _ _ k hlt 48 (by
            have e3 : a[k] = 48 := UInt8.toNat_inj.1 (by simpa using (by omega : a[k].toNat = 48))
            have e4 : b[k] = 48 := UInt8.toNat_inj.1 (by simpa using (by omega : b[k].toNat = 48))
            rw [E1.out, E2.out, e3, e4]; decide)] at hst
          have HST := Lib.hid hst
          have hbs := hb.setCell (p := ⟨w2.heap.size, k, none⟩) hBB (.int .u8 ((48 : UInt8).toNat : Int))
          have HBS := Lib.hid hbs
          clear hst hown1 hb hbs a1 a2 b1 b2
          go_wp2_with fail
          go_region
          all_goals
            go_wp2_with fail
            go_roundw
            case rel => exact ⟨k + 1, by omega, by go_num, HST.out, HBS.out.drew⟩
            case measure => simp [intOf]; omega
        · have hst := (hown1.stored k (.int .u8 ((49 : UInt8).toNat : Int))).1
          rw [xpart_set _ _ _ k hlt 49 (by
            have e3 : a[k] = 48 := UInt8.toNat_inj.1 (by simpa using (by omega : a[k].toNat = 48))
            have e4 : b[k] = 49 := UInt8.toNat_inj.1 (by simpa using (by omega : b[k].toNat = 49))
            rw [E1.out, E2.out, e3, e4]; decide)] at hst
          have HST := Lib.hid hst
          have hbs := hb.setCell (p := ⟨w2.heap.size, k, none⟩) hBB (.int .u8 ((49 : UInt8).toNat : Int))
          have HBS := Lib.hid hbs
          clear hst hown1 hb hbs a1 a2 b1 b2
          go_wp2_with fail
          go_region
          all_goals
            go_wp2_with fail
            go_roundw
            case rel => exact ⟨k + 1, by omega, by go_num, HST.out, HBS.out.drew⟩
            case measure => simp [intOf]; omega
      · rcases (show (b[k].toNat : Int) = 48 ∨ (b[k].toNat : Int) = 49 from by omega) with eb | eb
        · have hst := (hown1.stored k (.int .u8 ((49 : UInt8).toNat : Int))).1
          rw [xpart_set _ _ _ k hlt 49 (by
            have e3 : a[k] = 49 := UInt8.toNat_inj.1 (by simpa using (by omega : a[k].toNat = 49))
            have e4 : b[k] = 48 := UInt8.toNat_inj.1 (by simpa using (by omega : b[k].toNat = 48))
            rw [E1.out, E2.out, e3, e4]; decide)] at hst
          have HST := Lib.hid hst
          have hbs := hb.setCell (p := ⟨w2.heap.size, k, none⟩) hBB (.int .u8 ((49 : UInt8).toNat : Int))
          have HBS := Lib.hid hbs
          clear hst hown1 hb hbs a1 a2 b1 b2
          go_wp2_with fail
          go_region
          all_goals
            go_wp2_with fail
            go_roundw
            case rel => exact ⟨k + 1, by omega, by go_num, HST.out, HBS.out.drew⟩
            case measure => simp [intOf]; omega
        · have hst := (hown1.stored k (.int .u8 ((48 : UInt8).toNat : Int))).1
          rw [xpart_set _ _ _ k hlt 48 (by
            have e3 : a[k] = 49 := UInt8.toNat_inj.1 (by simpa using (by omega : a[k].toNat = 49))
            have e4 : b[k] = 49 := UInt8.toNat_inj.1 (by simpa using (by omega : b[k].toNat = 49))
            rw [E1.out, E2.out, e3, e4]; decide)] at hst
          have HST := Lib.hid hst
          have hbs := hb.setCell (p := ⟨w2.heap.size, k, none⟩) hBB (.int .u8 ((48 : UInt8).toNat : Int))
          have HBS := Lib.hid hbs
          clear hst hown1 hb hbs a1 a2 b1 b2
          go_wp2_with fail
          go_region
          all_goals
            go_wp2_with fail
            go_roundw
            case rel => exact ⟨k + 1, by omega, by go_num, HST.out, HBS.out.drew⟩
            case measure => simp [intOf]; omega
    · obtain rfl : k = a.size := by omega
      rw [xpart_full] at hown1
      have hcv := conv_own hown1
      go_wp2_with fail
      go_ret2
      exact ⟨rfl, hb⟩

theorem xor_no_impl (a b : ByteArray) (w : World) (hsa : a.size ≤ maxLen) (hsb : b.size ≤ maxLen) (h : ¬ (isB a.data.toList = true ∧ isB b.data.toList = true ∧ a.size = b.size)) :
    Calls Try.prog 30 #[.string a, .string b] w fun e w' => e = .returned (.tuple #[.string ⟨#[]⟩, .bool false]) ∧ Below w.heap.size w w' := by
  have HSA := Lib.hid hsa
  have HSB := Lib.hid hsb
  unfold maxLen at hsa hsb
  by_cases ha : isB a.data.toList = true
  · by_cases hb : isB b.data.toList = true
    · have hne : ((a.size : Int) != (b.size : Int)) = true := bne_t (fun e => h ⟨ha, hb, by omega⟩)
      clear h
      go_enter Try.func30, Try.ntmps30
      go_wp2_with fail
      refine (isBits_any _ _ HSA.out).mono ?_; rintro e w1 ⟨rfl, hb1⟩
      go_wp2_with fail
      refine (isBits_any _ _ HSB.out).mono ?_; rintro e w2 ⟨rfl, hb2⟩
      go_wp2_with fail
      go_ret2
      exact ⟨rfl, hb1.trans (hb2.mono hb1.size)⟩
    · have hb' : isB b.data.toList = false := by simpa using hb
      clear h hb
      go_enter Try.func30, Try.ntmps30
      go_wp2_with fail
      refine (isBits_any _ _ HSA.out).mono ?_; rintro e w1 ⟨rfl, hb1⟩
      go_wp2_with fail
      refine (isBits_any _ _ HSB.out).mono ?_; rintro e w2 ⟨rfl, hb2⟩
      go_wp2_with fail
      go_ret2
      exact ⟨rfl, hb1.trans (hb2.mono hb1.size)⟩
  · have ha' : isB a.data.toList = false := by simpa using ha
    clear h ha
    go_enter Try.func30, Try.ntmps30
    go_wp2_with fail
    refine (isBits_any _ _ HSA.out).mono ?_; rintro e w1 ⟨rfl, hb1⟩
    go_wp2_with fail
    go_ret2
    exact ⟨rfl, hb1⟩

end Go.Proofs.Ytddlpbpcdjddpaa
