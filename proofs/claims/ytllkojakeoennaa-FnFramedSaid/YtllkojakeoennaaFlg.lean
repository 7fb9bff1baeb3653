/- A stuffer's digits; its flag: the model's. -/
import Derived.Test.YtllkojakeoennaaStf
import Derived.Test.YtllkojakeoennaaOwn
import Derived.Laws.Runes
import Derived.BigRegion
namespace Go.Proofs.Ytllkojakeoennaa
open Go Go.RowKit
set_option linter.unusedVariables false

/-- A stuffer's bit, and both digits as bytes of bits. -/
def Dg (b : Int) (d o : UInt8) : Prop := b = 0 ∧ d = 48 ∧ o = 49 ∨ b = 1 ∧ d = 49 ∧ o = 48
def dB (b : Int) : UInt8 := if b = 0 then 48 else 49
def oB (b : Int) : UInt8 := if b = 0 then 49 else 48
theorem dg_of {b : Int} (h : 0 ≤ b ∧ b ≤ 1) : Dg b (dB b) (oB b) := by
  rcases (show b = 0 ∨ b = 1 from by omega) with rfl | rfl
  · exact .inl ⟨rfl, rfl, rfl⟩
  · exact .inr ⟨rfl, rfl, rfl⟩
theorem digit_any (a b : Int) (d o : UInt8) (h : Dg b d o) (D : Int) (hD : (d.toNat : Int) = D) (w : World) :
    Calls Try.prog 61 #[.agg #[.int .i64 a, .int .i64 b]] w fun e w' => e = .returned (.int .u8 D) ∧ Below w.heap.size w w' := by
  subst hD
  rcases h with ⟨rfl, rfl, rfl⟩ | ⟨rfl, rfl, rfl⟩
  all_goals
    go_enter Try.func61, Try.ntmps61
    go_wp2
    go_ret
    exact ⟨rfl, (Below.refl _ _).alloc (Nat.le_refl _) _⟩
theorem opposite_any (a b : Int) (d o : UInt8) (h : Dg b d o) (D : Int) (hD : (o.toNat : Int) = D) (w : World) :
    Calls Try.prog 54 #[.agg #[.int .i64 a, .int .i64 b]] w fun e w' => e = .returned (.int .u8 D) ∧ Below w.heap.size w w' := by
  subst hD
  rcases h with ⟨rfl, rfl, rfl⟩ | ⟨rfl, rfl, rfl⟩
  all_goals
    go_enter Try.func54, Try.ntmps54
    go_wp2
    go_ret
    exact ⟨rfl, (Below.refl _ _).alloc (Nat.le_refl _) _⟩
theorem conv_one (W : World) (c : UInt8) (x : Int) (hx : (c.toNat : Int) = x) : (convert 53 9 (.slice (some ⟨W.heap.size, 0, none⟩) 1 1)).run Try.prog (W.alloc (.cells #[.int .u8 x] 5)) = .ok (.string ⟨#[c]⟩) (W.alloc (.cells #[.int .u8 x] 5)) :=
  run_convert_bytes_back (P := Try.prog) (W.alloc (.cells #[.int .u8 x] 5)) 53 9 5 ⟨W.heap.size, 0, none⟩ 1 [c] Try.underlying53 Try.underlying5 Try.underlying9 (by
    intro i hi
    have h0 : i = 0 := by simp at hi; exact hi
    subst h0
    have ea : (⟨W.heap.size, 0, none⟩ : Addr).add 0 = ⟨W.heap.size, 0, none⟩ := by unfold Addr.add; split <;> simp_all
    rw [ea, World.cell?_alloc_at _ _ _ _ rfl]
    simp [hx])
/-- The flag. -/
def fl (n : Nat) (d o : UInt8) : ByteArray := ⟨([o] ++ List.replicate (n + 1) d ++ [o]).toArray⟩
def flP (k : Nat) (d o : UInt8) : ByteArray := ⟨([o] ++ List.replicate k d).toArray⟩
theorem flP_zero (d o : UInt8) : flP 0 d o = ⟨#[o]⟩ := rfl
theorem flP_succ (k : Nat) (d o : UInt8) : flP k d o ++ ⟨#[d]⟩ = flP (k + 1) d o := by
  apply ByteArray.ext
  simp [flP, List.replicate_succ']
theorem flP_end (n : Nat) (d o : UInt8) : flP (n + 1) d o ++ ⟨#[o]⟩ = fl n d o := by
  apply ByteArray.ext
  simp [flP, fl]
theorem flP_size (k : Nat) (d o : UInt8) : (flP k d o).size = k + 1 := by simp [flP, ByteArray.size]
theorem fl_size (n : Nat) (d o : UInt8) : (fl n d o).size = n + 3 := by simp [fl, ByteArray.size]

set_option maxRecDepth 100000 in
set_option maxHeartbeats 1000000 in
theorem l04Flag_any (w : World) (q n : Nat) (b : Int) (d o : UInt8) (hd : Dg b d o) (hn : n ≤ 10) (h : Bk w q (sV n b)) :
    Calls Try.prog 59 #[.pointer (some ⟨q, 0, none⟩)] w fun e w' => e = .returned (.string (fl n d o)) ∧ Below w.heap.size w w' := by
  have HO := Lib.hid h
  obtain ⟨q0, q1⟩ := bk_two h
  have k1 := fun W => conv_one W 48 48 (by decide)
  have k2 := fun W => conv_one W 49 49 (by decide)
  have HZ := Lib.hid (flP_zero d o)
  have HT := Lib.hid (fun k => flP_succ k d o)
  have HE := Lib.hid (flP_end n d o)
  have HK := Lib.hid (fun k => flP_size k d o)
  clear h
  generalize fl n d o = F at *
  rcases hd with ⟨rfl, rfl, rfl⟩ | ⟨rfl, rfl, rfl⟩
  · go_enter Try.func59, Try.ntmps59
    go_wp2_with fail
    go_loopw [4, 5] (fun v i wr => ∃ k : Nat, k ≤ n + 1 ∧ i = .int .i64 k ∧ v = .string (flP k 48 49) ∧ Below w.heap.size w wr) (fun _ i _ => n + 1 - (intOf i).toNat)
    case atStart => exact ⟨0, Nat.zero_le _, rfl, by rw [HZ.out], (Below.refl _ _).alloc (Nat.le_refl _) _⟩
    case round =>
      obtain ⟨k, hk, rfl, rfl, hb⟩ := hrel
      have HB := Lib.hid hb
      clear q0 q1
      obtain ⟨q0, q1⟩ := bk_two (HO.out.keep hb)
      clear hb
      by_cases hlt : k ≤ n
      · have hlt' : (k : Int) ≤ (n : Int) := by omega
        have r1 : ∀ W : World, (Op.stringOp .add (flP k 48 49) ⟨#[48]⟩).run Try.prog W = .ok (.string (flP (k + 1) 48 49)) W := fun W => by
          have := run_string_add_sum (P := Try.prog) W (flP k 48 49) ⟨#[48]⟩ (by rw [HK.out]; show k + 1 + 1 ≤ _; omega)
          rwa [HT.out] at this
        generalize flP k 48 49 = C at *
        go_wp2_with fail
        go_roundw
        case rel => exact ⟨k + 1, by omega, by go_num, rfl, HB.out.alloc HB.out.size _⟩
        case measure => simp [intOf]; omega
      · obtain rfl : k = n + 1 := by omega
        have r1 : ∀ W : World, (Op.stringOp .add (flP (n + 1) 48 49) ⟨#[49]⟩).run Try.prog W = .ok (.string F) W := fun W => by
          have := run_string_add_sum (P := Try.prog) W (flP (n + 1) 48 49) ⟨#[49]⟩ (by rw [HK.out]; show n + 1 + 1 + 1 ≤ _; omega)
          rwa [HE.out] at this
        have hlt' : ¬ ((n + 1 : Nat) : Int) ≤ (n : Int) := by omega
        generalize flP (n + 1) 48 49 = C at *
        go_wp2_with fail
        go_ret
        exact ⟨rfl, HB.out⟩
  · go_enter Try.func59, Try.ntmps59
    go_wp2_with fail
    go_loopw [4, 5] (fun v i wr => ∃ k : Nat, k ≤ n + 1 ∧ i = .int .i64 k ∧ v = .string (flP k 49 48) ∧ Below w.heap.size w wr) (fun _ i _ => n + 1 - (intOf i).toNat)
    case atStart => exact ⟨0, Nat.zero_le _, rfl, by rw [HZ.out], (Below.refl _ _).alloc (Nat.le_refl _) _⟩
    case round =>
      obtain ⟨k, hk, rfl, rfl, hb⟩ := hrel
      have HB := Lib.hid hb
      clear q0 q1
      obtain ⟨q0, q1⟩ := bk_two (HO.out.keep hb)
      clear hb
      by_cases hlt : k ≤ n
      · have hlt' : (k : Int) ≤ (n : Int) := by omega
        have r1 : ∀ W : World, (Op.stringOp .add (flP k 49 48) ⟨#[49]⟩).run Try.prog W = .ok (.string (flP (k + 1) 49 48)) W := fun W => by
          have := run_string_add_sum (P := Try.prog) W (flP k 49 48) ⟨#[49]⟩ (by rw [HK.out]; show k + 1 + 1 ≤ _; omega)
          rwa [HT.out] at this
        generalize flP k 49 48 = C at *
        go_wp2_with fail
        go_roundw
        case rel => exact ⟨k + 1, by omega, by go_num, rfl, HB.out.alloc HB.out.size _⟩
        case measure => simp [intOf]; omega
      · obtain rfl : k = n + 1 := by omega
        have r1 : ∀ W : World, (Op.stringOp .add (flP (n + 1) 49 48) ⟨#[48]⟩).run Try.prog W = .ok (.string F) W := fun W => by
          have := run_string_add_sum (P := Try.prog) W (flP (n + 1) 49 48) ⟨#[48]⟩ (by rw [HK.out]; show n + 1 + 1 + 1 ≤ _; omega)
          rwa [HE.out] at this
        have hlt' : ¬ ((n + 1 : Nat) : Int) ≤ (n : Int) := by omega
        generalize flP (n + 1) 49 48 = C at *
        go_wp2_with fail
        go_ret
        exact ⟨rfl, HB.out⟩
end Go.Proofs.Ytllkojakeoennaa
