/- The law's own walk over lists of fractions: its length, whether two are equal. -/
import Derived.Test.YtnpigefbdadjfaaSfA
import Derived.Deep.RegionHeld3
namespace Go.Proofs.Ytnpigefbdadjfaa
open Go Go.RowKit
set_option linter.unusedVariables false

theorem szFrac_any (w : World) (A : Option Addr) (n c : Nat) (hn : n ≤ maxLen) :
    Calls Try.prog 32 #[.slice A n c, .int .i64 1048576] w fun e w' => e = .returned (.int .i64 (if 1048576 < n then -1 else 1048576 - (n : Int))) ∧ w = w' := by
  unfold maxLen at hn
  have wl : IntKind.i64.wrap (1048576 - (n : Int)) = 1048576 - (n : Int) := IntWalk.i64_in _ (by omega)
  by_cases h : 1048576 < n
  · rw [if_pos h]
    have hneg : 1048576 - (n : Int) < 0 := by omega
    go_enter Try.func32, Try.ntmps32
    go_wp2_with fail
    go_ret
    exact ⟨rfl, rfl⟩
  · rw [if_neg h]
    have hneg : ¬ 1048576 - (n : Int) < 0 := by omega
    go_enter Try.func32, Try.ntmps32
    go_wp2_with fail
    go_ret
    exact ⟨rfl, rfl⟩
set_option maxRecDepth 100000 in
set_option maxHeartbeats 2000000 in
theorem eqFracs_yes (w : World) (u v : Value) (l : List (Int × Int)) (hu : RdF w u l) (hv : RdF w v l) (hl : l.length ≤ 1048576) :
    Calls Try.prog 37 #[u, v] w fun e w' => e = .returned (.bool true) ∧ Below w.heap.size w w' := by
  obtain ⟨A, n, c, rfl, hn, r⟩ := hu
  obtain ⟨A', n', c', rfl, hn', r'⟩ := hv
  obtain rfl : n = n' := by omega
  rw [hn] at hl
  have HR := Lib.hid r
  have HR' := Lib.hid r'
  have HN := Lib.hid hn
  have hne : ((n : Int) != (n : Int)) = false := by simp
  clear r r' hn hn'
  go_enter Try.func37, Try.ntmps37
  go_wp2_with fail
  go_loopw [5] (fun i wr => ∃ k : Nat, k ≤ n ∧ i = .int .i64 k ∧ Below w.heap.size w wr) (fun i _ => n - (intOf i).toNat)
  case atStart => exact ⟨0, Nat.zero_le _, rfl, Below.refl _ _⟩
  case round =>
    obtain ⟨k, hk, rfl, hb⟩ := hrel
    by_cases hlt : k < n
    · obtain ⟨b, o, rfl, hb0, hc⟩ := HR.out (by omega)
      obtain ⟨b', o', rfl, hb0', hc'⟩ := HR'.out (by omega)
      have hkl : k < l.length := by have := HN.out; omega
      have HD : Hid (∀ W, Below w.heap.size w W → W.cell? ⟨b, o + k * 2, none⟩ = some (.int .i64 l[k].1) ∧ W.cell? ⟨b, o + k * 2 + 1, none⟩ = some (.int .i64 l[k].2) ∧ W.cell? ⟨b', o' + k * 2, none⟩ = some (.int .i64 l[k].1) ∧ W.cell? ⟨b', o' + k * 2 + 1, none⟩ = some (.int .i64 l[k].2)) := fun W hb => ⟨(hb.cell (p := ⟨b, o + k * 2, none⟩) hb0).trans (hc k hkl).1, (hb.cell (p := ⟨b, o + k * 2 + 1, none⟩) hb0).trans (hc k hkl).2, (hb.cell (p := ⟨b', o' + k * 2, none⟩) hb0').trans (hc' k hkl).1, (hb.cell (p := ⟨b', o' + k * 2 + 1, none⟩) hb0').trans (hc' k hkl).2⟩
      clear hc hc'
      generalize l[k].1 = x at *
      generalize l[k].2 = y at *
      have i1 : (0 : Int) ≤ (k : Int) := by omega
      have i2 : (k : Int) < (n : Int) := by omega
      have td : Below w.heap.size w wr.drew := hb.drew
      obtain ⟨d0, d1, d2, d3⟩ := HD.out wr hb
      go_wp2_with fail
      go_region_held3 (fun w' => w'.cell? ⟨b, o + k * 2, none⟩ = some (.int .i64 x) ∧ w'.cell? ⟨b, o + k * 2 + 1, none⟩ = some (.int .i64 y) ∧ w'.cell? ⟨b', o' + k * 2, none⟩ = some (.int .i64 x) ∧ w'.cell? ⟨b', o' + k * 2 + 1, none⟩ = some (.int .i64 y)) ((first | with_reducible assumption | with_reducible exact Hid.out HD _ t8 | with_reducible exact Hid.out HD _ td | fail))
        (first
          | (go_at_call 36; refine (eqFraction_yes _ _ _).mono ?_; rintro e w8 ⟨rfl, hb8⟩; have t8 : Below w.heap.size w w8 := td.trans (hb8.mono td.size))
          | fail)
      have T8 := Lib.hid t8
      clear td hb hb8 t8
      go_wp2_with fail
      go_roundw
      case rel => exact ⟨k + 1, by omega, by go_num, T8.out⟩
      case measure => simp [intOf]; omega
    · go_wp2_with fail
      go_ret
      exact ⟨rfl, hb⟩
end Go.Proofs.Ytnpigefbdadjfaa
