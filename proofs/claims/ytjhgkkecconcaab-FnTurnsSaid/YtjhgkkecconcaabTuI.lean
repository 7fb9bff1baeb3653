/- What the walk of FnTurns reads. -/
import Derived.Test.YtjhgkkecconcaabTuQ
import Derived.Test.YtjhgkkecconcaabRvJ
import Derived.Test.YtjhgkkecconcaabNdD
namespace Go.Proofs.Ytjhgkkecconcaab
open Go Go.RowKit
set_option linter.unusedVariables false

theorem rowP {w : World} {v : Value} {l : List Int} (h : Rd w v l) (h0 : 0 < l.length) (n : Nat) (hn : l.length = n) :
    ∃ b o c, v = .slice (some ⟨b, o, none⟩) n c ∧ ∀ W, Below w.heap.size w W → ∀ k, k < n → W.cell? ⟨b, o + k, none⟩ = some (.int .i64 (l.getD k 0)) := by
  subst hn
  obtain ⟨b, o, c, rfl, hlt, hc⟩ := rd_posR h h0
  refine ⟨b, o, c, rfl, fun W hW k hk => ?_⟩
  rw [getD_at hk]
  exact (hW.cell (p := ⟨b, o + k, none⟩) hlt).trans (hc k hk)
theorem listP {w : World} {v : Value} {g : List (List Int)} (h : RdG w v g) (hp : ∀ i, i < g.length → 0 < (g.getD i []).length) :
    ∃ A c, v = .slice A g.length c ∧ ∀ i, i < g.length → ∃ b o bi oi ci, A = some ⟨b, o, none⟩ ∧ ∀ W, Below w.heap.size w W → W.cell? ⟨b, o + i, none⟩ = some (.slice (some ⟨bi, oi, none⟩) (g.getD i []).length ci) ∧
      ∀ k, k < (g.getD i []).length → W.cell? ⟨bi, oi + k, none⟩ = some (.int .i64 ((g.getD i []).getD k 0)) := by
  obtain ⟨A, n, c, rfl, hn, -, -, r⟩ := h
  subst hn
  refine ⟨A, c, rfl, fun i hi => ?_⟩
  obtain ⟨b, o, rfl, hlt, hc⟩ := r (by omega)
  obtain ⟨u, hu, hr⟩ := hc i hi
  have e : g.getD i [] = g[i] := by simp [List.getD, hi]
  have hp' := hp i hi
  rw [e] at hp' ⊢
  obtain ⟨bi, oi, ci, rfl, hk⟩ := rowP hr hp' _ rfl
  exact ⟨b, o, bi, oi, ci, rfl, fun W hW => ⟨(hW.cell (p := ⟨b, o + i, none⟩) hlt).trans hu, hk W hW⟩⟩
set_option maxRecDepth 100000 in
theorem b10Sum_any (w : World) (v : Value) (l : List Int) (h : Rd w v l) (h0 : 0 < l.length) (hb : ∀ k, k ≤ l.length → 0 ≤ (l.take k).sum ∧ (l.take k).sum ≤ 100000) :
    Calls Try.prog 31 #[v] w fun e w' => e = .returned (.int .i64 l.sum) ∧ w = w' := by
  have hlen := h.len
  obtain ⟨b, o, c, rfl, hc⟩ := rowP h h0 _ rfl
  have hlen2 : l.length ≤ 9223372036854775807 := by unfold maxLen at hlen; omega
  clear hlen
  have HC := Lib.hid (hc w (Below.refl _ _))
  have HB := Lib.hid hb
  have HS := Lib.hid (fun k (hk : k < l.length) => sum_take hk)
  have HT : Hid ((l.take l.length).sum = l.sum) := by show _ = _; rw [List.take_length]
  have HG := Lib.hid (fun k (hk : k < l.length) => getD_at (l := l) hk)
  clear hc hb h
  go_enter Try.func31, Try.ntmps31
  go_wp2_with fail
  go_loopw [3, 4] (fun s i wr => ∃ k : Nat, k ≤ l.length ∧ i = .int .i64 k ∧ s = .int .i64 (l.take k).sum ∧ w = wr) (fun _ i _ => l.length - (intOf i).toNat)
  case atStart => exact ⟨0, Nat.zero_le _, rfl, rfl, rfl⟩
  case round =>
    obtain ⟨k, hk, rfl, rfl, rfl⟩ := hrel
    by_cases hlt : k < l.length
    · have hk1 : (k : Int) < (l.length : Int) := by omega
      have hk0 : (0 : Int) ≤ (k : Int) := by omega
      have hcell := HC.out k hlt
      have wk : IntKind.i64.wrap ((k : Int) + 1) = (k : Int) + 1 := IntWalk.i64_in _ (by omega)
      have hs := HS.out k hlt
      rw [← HG.out k hlt] at hs
      have hb0 := HB.out k hk
      have hb1 := HB.out (k + 1) (by omega)
      rw [hs] at hb1
      have HSS := Lib.hid hs
      clear hs
      generalize l.getD k 0 = x at *
      generalize (l.take k).sum = S at *
      have hw : IntKind.i64.wrap (S + x) = S + x := IntWalk.i64_in _ (by omega)
      clear hb0 hb1
      go_wp2_with fail
      go_roundw
      case rel => exact ⟨k + 1, by omega, by first | rfl | (congr 1; omega), by rw [HSS.out], by first | rfl | trivial⟩
      case measure => first | (simp [intOf]; done) | (simp [intOf]; omega)
    · obtain rfl : k = l.length := by omega
      rw [HT.out]
      go_wp2_with fail
      go_ret
      exact ⟨rfl, rfl⟩
end Go.Proofs.Ytjhgkkecconcaab
