/- Contracts of l01Xor and of both XorBits, and the walk of its law. -/
import Derived.Test.YtdffopedlgpahaaOwn
import Derived.Deep.RegionLaw
import Derived.Deep.AppendLies
namespace Go.Proofs.Ytdffopedlgpahaa
open Go Go.RowKit
set_option linter.unusedVariables false

/-- Where bits differ. -/
def xorB (a b : List UInt8) (k : Nat) : List UInt8 := (List.range k).map fun j => if a[j]? = b[j]? then 48 else 49
theorem xorB_succ (a b : List UInt8) (k : Nat) : xorB a b (k + 1) = xorB a b k ++ [if a[k]? = b[k]? then 48 else 49] := by simp [xorB, List.range_succ]
theorem xorB_length (a b : List UInt8) (k : Nat) : (xorB a b k).length = k := by simp [xorB]

set_option maxRecDepth 100000 in
theorem l01Xor_any (a b : ByteArray) (w : World) (ha : a.size ≤ 400) (hab : a.size = b.size) (h1 : inR 48 49 a.data.toList = true) (h2 : inR 48 49 b.data.toList = true) :
    Calls Try.prog 56 #[.string a, .string b] w fun e w' => e = .returned (.string ⟨(xorB a.data.toList b.data.toList a.size).toArray⟩) ∧ Below w.heap.size w w' := by
  obtain ⟨i0, hi, hz0, hz1, hz2⟩ := info_parts Try.infoByte
  have HA := Lib.hid h1
  have HB := Lib.hid h2
  have HE := Lib.hid hab
  clear h1 h2 hab
  go_enter Try.func56, Try.ntmps56
  go_wp2
  go_loopw [5, 6] (fun v i wr => ∃ k : Nat, k ≤ a.size ∧ i = .int .i64 k ∧ wr.ownsRow w.heap.size 5 1 v k (byteVals (xorB a.data.toList b.data.toList k)) ∧ Below w.heap.size w wr) (fun _ i _ => a.size - (intOf i).toNat)
  case atStart => exact ⟨0, Nat.zero_le _, rfl, World.ownsRow_made w #[] 0 (Nat.le_refl _) (by decide) rfl, (Below.refl _ _).alloc (Nat.le_refl _) _⟩
  case round =>
    obtain ⟨k, hk, rfl, hown, hb⟩ := hrel
    by_cases hlt : k < a.size
    · have hltb : k < b.size := by have := HE.out; omega
      obtain ⟨a1, a2⟩ := inR_at 48 49 a k hlt HA.out
      obtain ⟨b1, b2⟩ := inR_at 48 49 b k hltb HB.out
      have f0 : IntKind.u8.wrap 0 = 0 := by decide
      have f1 : IntKind.u8.wrap 1 = 1 := by decide
      have f2 : IntKind.u8.wrap 48 = 48 := by decide
      have f3 : IntKind.u8.wrap 49 = 49 := by decide
      have x0 : bits .xor .u8 48 0 = 48 := by decide
      have x1 : bits .xor .u8 48 1 = 49 := by decide
      have x2 : bits .xor .u8 49 0 = 49 := by decide
      have x3 : bits .xor .u8 49 1 = 48 := by decide
      rcases (show (a[k].toNat : Int) = 48 ∨ (a[k].toNat : Int) = 49 from by omega) with ea | ea
      · rcases (show (b[k].toNat : Int) = 48 ∨ (b[k].toNat : Int) = 49 from by omega) with eb | eb
        · clear a1 a2 b1 b2
          have hx : (if a.data.toList[k]? = b.data.toList[k]? then (48 : UInt8) else 49) = 48 := by
            have e1 : a.data.toList[k]? = some a[k] := by rw [List.getElem?_eq_getElem (by simpa using hlt)]; rfl
            have e2 : b.data.toList[k]? = some b[k] := by rw [List.getElem?_eq_getElem (by simpa using hltb)]; rfl
            have e3 : a[k] = 48 := UInt8.toNat_inj.1 (by simpa using (by omega : a[k].toNat = 48))
            have e4 : b[k] = 48 := UInt8.toNat_inj.1 (by simpa using (by omega : b[k].toNat = 48))
            rw [e1, e2, e3, e4]; decide
          have HX := Lib.hid hx
          clear hx
          go_wp2
          go_region_law ((refine step_append_lies _ rfl _ _ 22 (by rfl) w.heap.size 5 i0 (.int .u8 0) 1 1 Try.underlying22 hi hz0 hz1 hz2 rfl (by decide) _ k _ (by rfl) (hown.alloc _) ⟨wr.heap.size, 0, none⟩ 1 1 [.int .u8 48] (by rfl) rfl (by exact c1_one _ _ _) (by intro u hu; simp at hu; subst hu; rfl) (by decide) (by unfold maxLen; omega) (by omega) (by have := hb.size; simp; omega) (wr.heap.size + 1) (by simp) ?_; intro g cap w1 hown1 hgrow hat hlt1))
          all_goals
            have hb1 := below_appd (w1 := w1) hb hb.size hown hgrow
            have hown2 : w1.ownsRow w.heap.size 5 1 (.slice (some ⟨g, 0, none⟩) (k + 1) cap) (k + 1) (byteVals (xorB a.data.toList b.data.toList (k + 1))) := by
              rw [xorB_succ, HX.out, ← byteVals_snoc]; exact hown1
            clear hown hown1 hgrow hat hlt1 hb
            go_wp2
            go_roundw
            case rel => exact ⟨k + 1, by omega, by go_num, hown2, hb1⟩
            case measure => simp [intOf]; omega
        · clear a1 a2 b1 b2
          have hx : (if a.data.toList[k]? = b.data.toList[k]? then (48 : UInt8) else 49) = 49 := by
            have e1 : a.data.toList[k]? = some a[k] := by rw [List.getElem?_eq_getElem (by simpa using hlt)]; rfl
            have e2 : b.data.toList[k]? = some b[k] := by rw [List.getElem?_eq_getElem (by simpa using hltb)]; rfl
            have e3 : a[k] = 48 := UInt8.toNat_inj.1 (by simpa using (by omega : a[k].toNat = 48))
            have e4 : b[k] = 49 := UInt8.toNat_inj.1 (by simpa using (by omega : b[k].toNat = 49))
            rw [e1, e2, e3, e4]; decide
          have HX := Lib.hid hx
          clear hx
          go_wp2
          go_region_law ((refine step_append_lies _ rfl _ _ 22 (by rfl) w.heap.size 5 i0 (.int .u8 0) 1 1 Try.underlying22 hi hz0 hz1 hz2 rfl (by decide) _ k _ (by rfl) (hown.alloc _) ⟨wr.heap.size, 0, none⟩ 1 1 [.int .u8 49] (by rfl) rfl (by exact c1_one _ _ _) (by intro u hu; simp at hu; subst hu; rfl) (by decide) (by unfold maxLen; omega) (by omega) (by have := hb.size; simp; omega) (wr.heap.size + 1) (by simp) ?_; intro g cap w1 hown1 hgrow hat hlt1))
          all_goals
            have hb1 := below_appd (w1 := w1) hb hb.size hown hgrow
            have hown2 : w1.ownsRow w.heap.size 5 1 (.slice (some ⟨g, 0, none⟩) (k + 1) cap) (k + 1) (byteVals (xorB a.data.toList b.data.toList (k + 1))) := by
              rw [xorB_succ, HX.out, ← byteVals_snoc]; exact hown1
            clear hown hown1 hgrow hat hlt1 hb
            go_wp2
            go_roundw
            case rel => exact ⟨k + 1, by omega, by go_num, hown2, hb1⟩
            case measure => simp [intOf]; omega
      · rcases (show (b[k].toNat : Int) = 48 ∨ (b[k].toNat : Int) = 49 from by omega) with eb | eb
        · clear a1 a2 b1 b2
          have hx : (if a.data.toList[k]? = b.data.toList[k]? then (48 : UInt8) else 49) = 49 := by
            have e1 : a.data.toList[k]? = some a[k] := by rw [List.getElem?_eq_getElem (by simpa using hlt)]; rfl
            have e2 : b.data.toList[k]? = some b[k] := by rw [List.getElem?_eq_getElem (by simpa using hltb)]; rfl
            have e3 : a[k] = 49 := UInt8.toNat_inj.1 (by simpa using (by omega : a[k].toNat = 49))
            have e4 : b[k] = 48 := UInt8.toNat_inj.1 (by simpa using (by omega : b[k].toNat = 48))
            rw [e1, e2, e3, e4]; decide
          have HX := Lib.hid hx
          clear hx
          go_wp2
          go_region_law ((refine step_append_lies _ rfl _ _ 22 (by rfl) w.heap.size 5 i0 (.int .u8 0) 1 1 Try.underlying22 hi hz0 hz1 hz2 rfl (by decide) _ k _ (by rfl) (hown.alloc _) ⟨wr.heap.size, 0, none⟩ 1 1 [.int .u8 49] (by rfl) rfl (by exact c1_one _ _ _) (by intro u hu; simp at hu; subst hu; rfl) (by decide) (by unfold maxLen; omega) (by omega) (by have := hb.size; simp; omega) (wr.heap.size + 1) (by simp) ?_; intro g cap w1 hown1 hgrow hat hlt1))
          all_goals
            have hb1 := below_appd (w1 := w1) hb hb.size hown hgrow
            have hown2 : w1.ownsRow w.heap.size 5 1 (.slice (some ⟨g, 0, none⟩) (k + 1) cap) (k + 1) (byteVals (xorB a.data.toList b.data.toList (k + 1))) := by
              rw [xorB_succ, HX.out, ← byteVals_snoc]; exact hown1
            clear hown hown1 hgrow hat hlt1 hb
            go_wp2
            go_roundw
            case rel => exact ⟨k + 1, by omega, by go_num, hown2, hb1⟩
            case measure => simp [intOf]; omega
        · clear a1 a2 b1 b2
          have hx : (if a.data.toList[k]? = b.data.toList[k]? then (48 : UInt8) else 49) = 48 := by
            have e1 : a.data.toList[k]? = some a[k] := by rw [List.getElem?_eq_getElem (by simpa using hlt)]; rfl
            have e2 : b.data.toList[k]? = some b[k] := by rw [List.getElem?_eq_getElem (by simpa using hltb)]; rfl
            have e3 : a[k] = 49 := UInt8.toNat_inj.1 (by simpa using (by omega : a[k].toNat = 49))
            have e4 : b[k] = 49 := UInt8.toNat_inj.1 (by simpa using (by omega : b[k].toNat = 49))
            rw [e1, e2, e3, e4]; decide
          have HX := Lib.hid hx
          clear hx
          go_wp2
          go_region_law ((refine step_append_lies _ rfl _ _ 22 (by rfl) w.heap.size 5 i0 (.int .u8 0) 1 1 Try.underlying22 hi hz0 hz1 hz2 rfl (by decide) _ k _ (by rfl) (hown.alloc _) ⟨wr.heap.size, 0, none⟩ 1 1 [.int .u8 48] (by rfl) rfl (by exact c1_one _ _ _) (by intro u hu; simp at hu; subst hu; rfl) (by decide) (by unfold maxLen; omega) (by omega) (by have := hb.size; simp; omega) (wr.heap.size + 1) (by simp) ?_; intro g cap w1 hown1 hgrow hat hlt1))
          all_goals
            have hb1 := below_appd (w1 := w1) hb hb.size hown hgrow
            have hown2 : w1.ownsRow w.heap.size 5 1 (.slice (some ⟨g, 0, none⟩) (k + 1) cap) (k + 1) (byteVals (xorB a.data.toList b.data.toList (k + 1))) := by
              rw [xorB_succ, HX.out, ← byteVals_snoc]; exact hown1
            clear hown hown1 hgrow hat hlt1 hb
            go_wp2
            go_roundw
            case rel => exact ⟨k + 1, by omega, by go_num, hown2, hb1⟩
            case measure => simp [intOf]; omega
    · obtain rfl : k = a.size := by omega
      have hcv := conv_own hown
      go_wp2
      go_ret
      exact ⟨rfl, hb⟩

def xpart (a b : List UInt8) (n k : Nat) : List Value := byteVals (xorB a b k) ++ List.replicate (n - k) (.int .u8 0)
theorem xpart_zero (a b : List UInt8) (n : Nat) : xpart a b n 0 = List.replicate n (.int .u8 0) := by simp [xpart, xorB, byteVals]
theorem xpart_full (a b : List UInt8) (n : Nat) : xpart a b n n = byteVals (xorB a b n) := by simp [xpart]
theorem xpart_set (a b : List UInt8) (n k : Nat) (hk : k < n) (c : UInt8) (hc : (if a[k]? = b[k]? then (48 : UInt8) else 49) = c) : (xpart a b n k).set k (.int .u8 (c.toNat : Int)) = xpart a b n (k + 1) := by
  unfold xpart
  rw [List.set_append, if_neg (by rw [byteVals_length, xorB_length]; omega), byteVals_length, xorB_length, Nat.sub_self, xorB_succ, ← byteVals_snoc, hc]
  obtain ⟨m, hm⟩ : ∃ m, n - k = m + 1 := ⟨n - k - 1, by omega⟩
  rw [hm, show n - (k + 1) = m from by omega, List.replicate_succ]
  simp

/-- Two texts of few bits that are as long. -/
def xorOk (a b : List UInt8) : Bool := isB a && isB b && decide (a.length = b.length)
theorem isB_parts {l : List UInt8} (h : isB l = true) : l.length ≤ 400 ∧ inR 48 49 l = true := by
  unfold isB at h
  have h' := Bool.and_eq_true_iff.1 h
  exact ⟨of_decide_eq_true h'.1, h'.2⟩

theorem xor_yes_spec (a b : ByteArray) (w : World) (ha : isB a.data.toList = true) (hb : isB b.data.toList = true) (hab : a.size = b.size) :
    Calls Try.prog 28 #[.string a, .string b] w fun e w' => e = .returned (.tuple #[.string ⟨(xorB a.data.toList b.data.toList a.size).toArray⟩, .bool true]) ∧ Below w.heap.size w w' := by
  have pa := isB_parts ha
  have pb := isB_parts hb
  have la : a.size ≤ 400 := by simpa using pa.1
  have lb : b.size ≤ 400 := by simpa using pb.1
  have PA := Lib.hid pa.2
  have PB := Lib.hid pb.2
  have HA := Lib.hid ha
  have HB := Lib.hid hb
  have hne : ((a.size : Int) != (b.size : Int)) = false := bne_f (by omega)
  have HAB := Lib.hid hab
  clear pa pb hab
  go_enter Try.func28, Try.ntmps28
  go_wp2_with fail
  refine (l01Bits_any _ _ (by unfold maxLen; omega)).mono ?_; rintro e w' ⟨rfl, rfl⟩
  go_wp2_with fail
  refine (l01Bits_any _ _ (by unfold maxLen; omega)).mono ?_; rintro e w' ⟨rfl, rfl⟩
  go_wp2_with fail
  refine (l01Xor_any _ _ _ la HAB.out PA.out PB.out).mono ?_; rintro e w' ⟨rfl, hbl⟩
  go_wp2_with fail
  go_ret2
  exact ⟨rfl, hbl⟩

end Go.Proofs.Ytdffopedlgpahaa
