/- The law's sum of a list, empty or not. -/
import Derived.Test.YtnpigefbdadjfaaRd
namespace Go.Proofs.Ytnpigefbdadjfaa
open Go Go.RowKit
set_option linter.unusedVariables false

theorem sum_takeS {l : List Int} {k : Nat} (h : k < l.length) : (l.take (k + 1)).sum = (l.take k).sum + l.getD k 0 := by
  rw [List.take_succ_eq_append_getElem h, List.sum_append, List.sum_singleton, List.getD, List.getElem?_eq_getElem h]; rfl
set_option maxRecDepth 100000 in
theorem b10Sum_all (w : World) (v : Value) (l : List Int) (h : Rd w v l) (hb : ∀ k, 0 ≤ (l.take k).sum ∧ (l.take k).sum ≤ 100000) :
    Calls Try.prog 17 #[v] w fun e w' => e = .returned (.int .i64 l.sum) ∧ w = w' := by
  have hlen := h.len
  obtain ⟨A, n, c, rfl, hn, -, -, hr⟩ := h
  have hlen2 : n ≤ 9223372036854775807 := by unfold maxLen at hlen; omega
  clear hlen
  have HC : Hid (∀ k, k < n → ∃ b o, A = some ⟨b, o, none⟩ ∧ w.cell? ⟨b, o + k, none⟩ = some (.int .i64 (l.getD k 0))) := by
    show ∀ k, _
    intro k hk
    obtain ⟨b, o, rfl, -, hc⟩ := hr (by omega)
    refine ⟨b, o, rfl, ?_⟩
    have := hc k (by omega)
    rw [List.getD, List.getElem?_eq_getElem (show k < l.length by omega)]
    exact this
  have HB := Lib.hid hb
  have HN := Lib.hid hn
  have HS := Lib.hid (fun k (hk : k < l.length) => sum_takeS hk)
  have HT : Hid ((l.take n).sum = l.sum) := by show _ = _; rw [← hn, List.take_length]
  clear hb hr hn
  go_enter Try.func17, Try.ntmps17
  go_wp2_with fail
  go_loopw [3, 4] (fun s i wr => ∃ k : Nat, k ≤ n ∧ i = .int .i64 k ∧ s = .int .i64 (l.take k).sum ∧ w = wr) (fun _ i _ => n - (intOf i).toNat)
  case atStart => exact ⟨0, Nat.zero_le _, rfl, rfl, rfl⟩
  case round =>
    obtain ⟨k, hk, rfl, rfl, rfl⟩ := hrel
    by_cases hlt : k < n
    · obtain ⟨b, o, rfl, hcell⟩ := HC.out k hlt
      have hk1 : (k : Int) < (n : Int) := by omega
      have hk0 : (0 : Int) ≤ (k : Int) := by omega
      have wk : IntKind.i64.wrap ((k : Int) + 1) = (k : Int) + 1 := IntWalk.i64_in _ (by omega)
      have hs := HS.out k (by have := HN.out; omega)
      have hb0 := HB.out k
      have hb1 := HB.out (k + 1)
      rw [hs] at hb1
      have HSS := Lib.hid hs
      clear hs
      generalize l.getD k 0 = x at *
      generalize (l.take k).sum = S at *
      have hw : IntKind.i64.wrap (S + x) = S + x := IntWalk.i64_in _ (by omega)
      clear hb0 hb1
      go_wp2_with fail
      go_roundw
      case rel => exact ⟨k + 1, by omega, by first | rfl | (congr 1; omega), by rw [HSS.out], by first | rfl | trivial⟩
      case measure => first | (simp [intOf]; done) | (simp [intOf]; omega)
    · obtain rfl : k = n := by omega
      rw [HT.out]
      go_wp2_with fail
      go_ret
      exact ⟨rfl, rfl⟩
end Go.Proofs.Ytnpigefbdadjfaa
