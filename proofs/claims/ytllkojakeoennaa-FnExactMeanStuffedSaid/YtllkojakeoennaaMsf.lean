/- Contracts of both MostStuffed and of both MeanStuffed. -/
import Derived.Test.YtllkojakeoennaaStf
import Derived.Test.YtllkojakeoennaaMake
namespace Go.Proofs.Ytllkojakeoennaa
open Go Go.RowKit
set_option linter.unusedVariables false

def mostOk (a b n : Int) : Bool := sOk a b && decide (0 ≤ n ∧ n ≤ 400)
def mostV (a b n : Int) : Int := if mostOk a b n then Int.tdiv n a else 0
theorem sOk_parts {a b : Int} (h : sOk a b = true) : (1 ≤ a ∧ a ≤ 10) ∧ (0 ≤ b ∧ b ≤ 1) := of_decide_eq_true h
theorem most_bd (n a : Int) (h1 : 0 ≤ n) (h2 : n ≤ 400) : -400 ≤ Int.tdiv n a ∧ Int.tdiv n a ≤ 400 := by
  have h : (Int.tdiv n a).natAbs ≤ n.natAbs := by rw [Int.natAbs_tdiv]; exact Nat.div_le_self _ _
  omega
theorem sbox_below (w : World) (cs : Array Value) (t : TypeId) : Below w.heap.size w (w.alloc (.cells cs t)) := (Below.refl _ _).alloc (Nat.le_refl _) _
theorem most_spec (w : World) (a b n : Int) :
    Calls Try.prog 35 #[.agg #[.int .i64 a, .int .i64 b], .int .i64 n] w fun e w' => e = .returned (.tuple #[.int .i64 (mostV a b n), .bool (mostOk a b n)]) ∧ Below w.heap.size w w' := by
  have HB : Hid (Below w.heap.size w (w.alloc (.cells #[.int .i64 a, .int .i64 b] 25))) := sbox_below _ _ _
  have HO := Lib.hid (Bk.new w (sV a b) 25 _ rfl)
  cases hs : sOk a b
  · have e1 : mostOk a b n = false := by unfold mostOk; rw [hs]; rfl
    have e2 : mostV a b n = 0 := by unfold mostV; rw [e1]; rfl
    rw [e1, e2]
    have HS := Lib.hid hs
    clear e1 e2 hs
    go_enter Try.func35, Try.ntmps35
    go_wp2_with fail
    refine (l04Is_any _ _ _ _ HO.out).mono ?_; rintro e w' ⟨rfl, rfl⟩
    rw [HS.out]
    go_wp2_with fail
    go_ret2
    exact ⟨rfl, HB.out⟩
  · by_cases h2 : 0 ≤ n ∧ n ≤ 400
    · have e1 : mostOk a b n = true := by unfold mostOk; rw [hs, decide_eq_true h2]; rfl
      have e2 : mostV a b n = Int.tdiv n a := by unfold mostV; rw [e1]; rfl
      rw [e1, e2]
      obtain ⟨n1, n2⟩ := h2
      obtain ⟨z1, z2⟩ := most_bd n a n1 n2
      have ha : (a == 0) = false := beq_f (by have := (sOk_parts hs).1; omega)
      have ha1 : 0 < a := by have := (sOk_parts hs).1; omega
      have ha2 : ¬ a = 0 := by omega
      have HS := Lib.hid hs
      clear e1 e2 hs
      generalize hx : Int.tdiv n a = x at *
      have wx : IntKind.i64.wrap x = x := IntWalk.i64_in _ (by omega)
      go_enter Try.func35, Try.ntmps35
      go_wp2_with fail
      refine (l04Is_any _ _ _ _ HO.out).mono ?_; rintro e w' ⟨rfl, rfl⟩
      obtain ⟨q0, q1⟩ := bk_two HO.out
      rw [HS.out]
      go_wp2_with fail
      refine (l00In_yes _ _ _ _ n1 n2).mono ?_; rintro e w' ⟨rfl, rfl⟩
      go_wp2_with fail
      go_ret2
      exact ⟨rfl, HB.out⟩
    · have e1 : mostOk a b n = false := by unfold mostOk; rw [decide_eq_false h2]; simp
      have e2 : mostV a b n = 0 := by unfold mostV; rw [e1]; rfl
      rw [e1, e2]
      have HS := Lib.hid hs
      have H2 := Lib.hid h2
      clear e1 e2 hs h2
      go_enter Try.func35, Try.ntmps35
      go_wp2_with fail
      refine (l04Is_any _ _ _ _ HO.out).mono ?_; rintro e w' ⟨rfl, rfl⟩
      rw [HS.out]
      go_wp2_with fail
      refine (l00In_no _ _ _ _ H2.out).mono ?_; rintro e w' ⟨rfl, rfl⟩
      go_wp2_with fail
      go_ret2
      exact ⟨rfl, HB.out⟩

theorem most_impl (w : World) (a b n : Int) :
    Calls Try.prog 36 #[.agg #[.int .i64 a, .int .i64 b], .int .i64 n] w fun e w' => e = .returned (.tuple #[.int .i64 (mostV a b n), .bool (mostOk a b n)]) ∧ Below w.heap.size w w' := by
  have HB : Hid (Below w.heap.size w (w.alloc (.cells #[.int .i64 a, .int .i64 b] 25))) := sbox_below _ _ _
  have HO := Lib.hid (Bk.new w (sV a b) 25 _ rfl)
  cases hs : sOk a b
  · have e1 : mostOk a b n = false := by unfold mostOk; rw [hs]; rfl
    have e2 : mostV a b n = 0 := by unfold mostV; rw [e1]; rfl
    rw [e1, e2]
    have HS := Lib.hid hs
    clear e1 e2 hs
    go_enter Try.func36, Try.ntmps36
    go_wp2_with fail
    refine (validStuffer_impl _ _ _).mono ?_; rintro e w1 ⟨rfl, hb1⟩
    have B1 := Lib.hid (HB.out.trans (hb1.mono HB.out.size))
    obtain ⟨q0, q1⟩ := bk_two (HO.out.keep hb1)
    clear hb1
    rw [HS.out]
    go_wp2_with fail
    go_ret2
    exact ⟨rfl, B1.out⟩
  · by_cases h2 : 0 ≤ n ∧ n ≤ 400
    · have e1 : mostOk a b n = true := by unfold mostOk; rw [hs, decide_eq_true h2]; rfl
      have e2 : mostV a b n = Int.tdiv n a := by unfold mostV; rw [e1]; rfl
      rw [e1, e2]
      obtain ⟨n1, n2⟩ := h2
      obtain ⟨z1, z2⟩ := most_bd n a n1 n2
      have ha : (a == 0) = false := beq_f (by have := (sOk_parts hs).1; omega)
      have ha1 : 0 < a := by have := (sOk_parts hs).1; omega
      have ha2 : ¬ a = 0 := by omega
      have HS := Lib.hid hs
      clear e1 e2 hs
      generalize hx : Int.tdiv n a = x at *
      have wx : IntKind.i64.wrap x = x := IntWalk.i64_in _ (by omega)
      go_enter Try.func36, Try.ntmps36
      go_wp2_with fail
      refine (validStuffer_impl _ _ _).mono ?_; rintro e w1 ⟨rfl, hb1⟩
      have B1 := Lib.hid (HB.out.trans (hb1.mono HB.out.size))
      obtain ⟨q0, q1⟩ := bk_two (HO.out.keep hb1)
      clear hb1
      rw [HS.out]
      go_wp2_with fail
      refine (btw_yes _ _ _ _ n1 n2).mono ?_; rintro e w' ⟨rfl, rfl⟩
      go_wp2_with fail
      go_ret2
      exact ⟨rfl, B1.out⟩
    · have e1 : mostOk a b n = false := by unfold mostOk; rw [decide_eq_false h2]; simp
      have e2 : mostV a b n = 0 := by unfold mostV; rw [e1]; rfl
      rw [e1, e2]
      have HS := Lib.hid hs
      have H2 := Lib.hid h2
      clear e1 e2 hs h2
      go_enter Try.func36, Try.ntmps36
      go_wp2_with fail
      refine (validStuffer_impl _ _ _).mono ?_; rintro e w1 ⟨rfl, hb1⟩
      have B1 := Lib.hid (HB.out.trans (hb1.mono HB.out.size))
      obtain ⟨q0, q1⟩ := bk_two (HO.out.keep hb1)
      clear hb1
      rw [HS.out]
      go_wp2_with fail
      refine (btw_no _ _ _ _ H2.out).mono ?_; rintro e w' ⟨rfl, rfl⟩
      go_wp2_with fail
      go_ret2
      exact ⟨rfl, B1.out⟩

end Go.Proofs.Ytllkojakeoennaa
