/- Contracts of the program's functions that look at texts: areRunesBetween, IsBits; and of the model's l01Bits. -/
import Derived.Test.YtddlpbpcdjddpaaProg
import Derived.Test.YtddlpbpcdjddpaaPl
import Derived.WalkSpells
import Derived.Deep.RegionHeld3
import Derived.BigQuiet
import Derived.Lib.Hide
namespace Go.Proofs.Ytddlpbpcdjddpaa
open Go Go.RowKit
set_option linter.unusedVariables false

set_option maxRecDepth 100000 in
/-- areRunesBetween at bounds below 128: whether all bytes lie between them. -/
theorem runes_any (s : ByteArray) (lo hi : Int) (_hlo : 0 ≤ lo) (hhi : hi < 128) (w : World) :
    Calls Try.prog 71 #[.string s, .int .i32 lo, .int .i32 hi] w fun e w' => e = .returned (.bool (inR lo hi s.data.toList)) ∧ Below w.heap.size w w' := by
  go_enter Try.func71, Try.ntmps71
  go_wp2
  go_loopw [] (fun w' => ∃ pos : Nat, w' = w.iter s pos ∧ inR lo hi (s.data.toList.take pos) = true) (fun w' => s.size - w'.iterPos w.heap.size)
  case atStart => exact ⟨0, rfl, rfl⟩
  case round =>
    obtain ⟨pos, rfl, hin⟩ := hrel
    by_cases hp : pos < s.size
    · have hnx : ∀ ty, (Instr.next (.pointer (some ⟨w.heap.size, 0, none⟩)) true ty).run Try.prog (w.iter s pos) = _ := fun ty => run_next_any w s pos ty hp
      by_cases hin2 : lo ≤ (s[pos].toNat : Int) ∧ (s[pos].toNat : Int) ≤ hi
      · have hd := decode_ascii s pos hp (by omega)
        rw [hd] at hnx
        clear hd
        have hs : inR lo hi (s.data.toList.take (pos + 1)) = true := by rw [inR_snoc lo hi s pos hp, hin, decide_eq_true hin2]; rfl
        obtain ⟨h1, h2⟩ := hin2
        have HS := Lib.hid hs
        clear hs hin
        go_wp2
        refine ⟨⟨pos + 1, rfl, HS.out⟩, by simp; omega⟩
      · have hb := inR_bad lo hi s pos hp hin2
        have hno : ¬ (lo ≤ ((Utf8.decode s pos).1 : Int) ∧ ((Utf8.decode s pos).1 : Int) ≤ hi) := by
          by_cases ha : (s[pos]'hp).toNat < 128
          · rw [decode_ascii s pos hp ha]; exact hin2
          · have := (decode_high s pos hp (by omega)).1; omega
        have hd0 : (0 : Int) ≤ ((Utf8.decode s pos).1 : Int) := by omega
        have HB := Lib.hid hb
        clear hb hin hin2
        generalize (Utf8.decode s pos).1 = r at *
        by_cases h1 : lo ≤ (r : Int)
        · have h2 : ¬ (r : Int) ≤ hi := fun h => hno ⟨h1, h⟩
          clear hno
          go_wp2
          go_ret
          exact ⟨by rw [HB.out]; rfl, (Below.refl _ _).alloc (Nat.le_refl _) _⟩
        · clear hno
          go_wp2
          go_ret
          exact ⟨by rw [HB.out]; rfl, (Below.refl _ _).alloc (Nat.le_refl _) _⟩
    · have hnx : ∀ ty, (Instr.next (.pointer (some ⟨w.heap.size, 0, none⟩)) true ty).run Try.prog (w.iter s pos) = _ := fun ty => run_next_end w s pos ty hp
      have hr := inR_of_take lo hi s pos hp hin
      clear hin
      go_wp2
      go_ret
      exact ⟨by rw [hr]; rfl, (Below.refl _ _).alloc (Nat.le_refl _) _⟩

/-- Few bits. -/
def isB (l : List UInt8) : Bool := decide (l.length ≤ 400) && inR 48 49 l

/-- impl.IsBits. -/
theorem isBits_any (s : ByteArray) (w : World) (hs : s.size ≤ maxLen) :
    Calls Try.prog 42 #[.string s] w fun e w' => e = .returned (.bool (isB s.data.toList)) ∧ Below w.heap.size w w' := by
  unfold maxLen at hs
  by_cases h : s.size ≤ 400
  · have HE : Hid (isB s.data.toList = inR 48 49 s.data.toList) := by
      show isB s.data.toList = _
      unfold isB; rw [decide_eq_true (by simpa using h)]; rfl
    go_enter Try.func42, Try.ntmps42
    go_wp2_with (go_at_call 71; refine (runes_any _ _ _ (by omega) (by omega) _).mono ?_; rintro e w' ⟨rfl, hb⟩)
    go_ret
    exact ⟨by rw [HE.out]; rfl, ‹_›⟩
  · have HE : Hid (isB s.data.toList = false) := by
      show isB s.data.toList = _
      unfold isB; rw [decide_eq_false (by simpa using h)]; rfl
    go_enter Try.func42, Try.ntmps42
    go_wp2_with fail
    go_ret
    exact ⟨by rw [HE.out]; rfl, Below.refl _ _⟩

set_option maxRecDepth 100000 in
/-- spec.l01Bits. -/
theorem l01Bits_any (s : ByteArray) (w : World) (hs : s.size ≤ maxLen) :
    Calls Try.prog 38 #[.string s] w fun e w' => e = .returned (.bool (isB s.data.toList)) ∧ w = w' := by
  unfold maxLen at hs
  go_enter Try.func38, Try.ntmps38
  go_wp2
  go_loop [3] (fun i => ∃ k : Nat, k ≤ s.size ∧ i = .int .i64 k ∧ inR 48 49 (s.data.toList.take k) = true) (fun i => s.size - (intOf i).toNat)
  case atStart => exact ⟨0, Nat.zero_le _, rfl, rfl⟩
  case round =>
    obtain ⟨k, hk, rfl, hin⟩ := hrel
    by_cases hp : k < s.size
    · by_cases hin2 : 48 ≤ (s[k].toNat : Int) ∧ (s[k].toNat : Int) ≤ 49
      · have hs1 : inR 48 49 (s.data.toList.take (k + 1)) = true := by rw [inR_snoc 48 49 s k hp, hin, decide_eq_true hin2]; rfl
        obtain ⟨h1, h2⟩ := hin2
        have HS := Lib.hid hs1
        clear hs1 hin
        by_cases h3 : (s[k].toNat : Int) = 48
        · go_wp2
          go_round
          case rel => exact ⟨k + 1, by omega, by go_num, HS.out⟩
          case measure => simp [intOf]; omega
        · have h4 : (s[k].toNat : Int) = 49 := by omega
          go_wp2
          go_round
          case rel => exact ⟨k + 1, by omega, by go_num, HS.out⟩
          case measure => simp [intOf]; omega
      · have hb : isB s.data.toList = false := by unfold isB; rw [inR_bad 48 49 s k hp hin2]; simp
        have HB := Lib.hid hb
        have h3 : ((s[k].toNat : Int) != 48) = true := bne_t (by omega)
        have h4 : ((s[k].toNat : Int) != 49) = true := bne_t (by omega)
        clear hb hin hin2
        go_wp2
        go_ret
        exact ⟨by rw [HB.out]; rfl, rfl⟩
    · have hr := inR_of_take 48 49 s k hp hin
      clear hin
      have HB : Hid (isB s.data.toList = decide (s.size ≤ 400)) := by
        show isB s.data.toList = _
        unfold isB; rw [hr]; simp
      clear hr
      go_wp2
      go_ret
      exact ⟨ret_bool (by rw [HB.out]; simp; omega), rfl⟩
end Go.Proofs.Ytddlpbpcdjddpaa
