/- A reader of numbers: take, next. -/
import Derived.Test.YtjmaapbodacggaaRdv
namespace Go.Proofs.Ytjmaapbodacggaa
open Go Go.RowKit
set_option linter.unusedVariables false

/-- A reader in the block b has still to read xs. -/
def RdrI (K : Nat → Prop) (w : World) (b : Nat) (xs : List Value) : Prop := ∃ v, Blk w b 81 [v] ∧ RdV K w v xs
set_option maxRecDepth 100000 in
theorem takeI_no (K : Nat → Prop) (w : World) (b : Nat) (xs : List Value) (t : Int) (h : RdrI K w b xs) (ht : (xs.length : Int) < t) :
    Calls Try.prog 85 #[.pointer (some ⟨b, 0, none⟩), .int .i64 t] w fun e w' => e = .returned (.tuple #[.slice none 0 0, .bool false]) ∧ w = w' := by
  obtain ⟨v, hb, hv⟩ := h
  have hl := hv.len
  unfold maxLen at hl
  obtain ⟨A, n, c, rfl, hn, h1, h2, h3⟩ := hv
  have q0 := hb.cell 0 _ rfl
  have hlt : (n : Int) < t := by omega
  clear hb h3 ht
  go_enter Try.func85, Try.ntmps85
  go_wp2_with fail
  go_ret2
  exact ⟨rfl, rfl⟩
set_option maxRecDepth 100000 in
theorem takeI_yes (K : Nat → Prop) (w : World) (b : Nat) (xs : List Value) (t : Nat) (h : RdrI K w b xs) (ht : t ≤ xs.length) :
    Calls Try.prog 85 #[.pointer (some ⟨b, 0, none⟩), .int .i64 t] w fun e w' => ∃ v, e = .returned (.tuple #[v, .bool true]) ∧ RdV K w v (xs.take t) ∧ ∃ u, RdV K w u (xs.drop t) ∧ w' = w.setCell ⟨b, 0, none⟩ u := by
  obtain ⟨v, hb, hv⟩ := h
  have hl := hv.len
  unfold maxLen at hl
  have hv' := hv
  obtain ⟨A, n, c, rfl, hn, h1, h2, h3⟩ := hv
  have q0 := hb.cell 0 _ rfl
  have f0 := hb.frozen 0
  have hlt : ¬ (n : Int) < (t : Int) := by omega
  have ht1 : (t : Int) ≤ (n : Int) := by omega
  have ht2 : (t : Int) ≤ (c : Int) := by omega
  have HV := Lib.hid hv'
  have HT := Lib.hid ht
  clear hb h3 hv' ht
  go_enter Try.func85, Try.ntmps85
  go_wp2_with fail
  all_goals go_ret2
  all_goals
    have d := HV.out.drop t HT.out
    first
      | (obtain rfl : c = t := (by assumption); rw [if_pos rfl, Nat.sub_self] at d; exact ⟨_, rfl, HV.out.take _ HT.out, _, d, rfl⟩)
      | (rw [if_neg (by assumption)] at d; exact ⟨_, rfl, HV.out.take t HT.out, _, d, rfl⟩)

theorem nextI_no (K : Nat → Prop) (w : World) (b : Nat) (h : RdrI K w b []) :
    Calls Try.prog 84 #[.pointer (some ⟨b, 0, none⟩)] w fun e w' => e = .returned (.tuple #[.int .i64 0, .bool false]) ∧ w = w' := by
  have H := Lib.hid (takeI_no K w b [] 1 h (by decide))
  clear h
  go_enter Try.func84, Try.ntmps84
  go_wp2_with fail
  refine H.out.mono ?_; rintro e w1 ⟨rfl, rfl⟩
  go_wp2_with fail
  go_ret2
  exact ⟨rfl, rfl⟩
theorem nextI_yes (K : Nat → Prop) (w : World) (b : Nat) (x : Int) (xs : List Value) (hK : ¬ K b) (h : RdrI K w b (.int .i64 x :: xs)) :
    Calls Try.prog 84 #[.pointer (some ⟨b, 0, none⟩)] w fun e w' => e = .returned (.tuple #[.int .i64 x, .bool true]) ∧ ∃ u, RdV K w u xs ∧ w' = w.setCell ⟨b, 0, none⟩ u := by
  have H := Lib.hid (takeI_yes K w b _ 1 h (by simp))
  have HK := Lib.hid hK
  clear h hK
  go_enter Try.func84, Try.ntmps84
  go_wp2_with fail
  refine H.out.mono ?_; rintro e w1 ⟨v, rfl, hv, u, hu, rfl⟩
  have HU := Lib.hid hu
  have hv2 := hv.set b 0 u HK.out
  obtain ⟨A, c, rfl, -⟩ := hv.sh
  obtain ⟨g, o, rfl, hc, hn⟩ := hv2.head
  clear hu hv hv2
  go_wp2_with fail
  go_ret2
  exact ⟨rfl, u, HU.out, rfl⟩
end Go.Proofs.Ytjmaapbodacggaa
