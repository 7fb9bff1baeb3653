/- What a law does with a row of texts that a call made: heldStringS; rows of texts beside a marked one. -/
import Derived.Test.YtijmfienaoeboabMk
import Derived.Deep.RegionHeld3
namespace Go.Proofs.Ytijmfienaoeboab
open Go Go.RowKit
set_option linter.unusedVariables false

set_option maxHeartbeats 1000000 in
set_option maxRecDepth 100000 in
/-- heldStringS over a row that bears its marks. -/
theorem heldStringS_any (w : World) (base : Nat) (v : Value) (n m : Nat) (hm : m ≤ 4000000) (hl : n ≤ 4000000) (h1 : OwnT w base v (marksT m n)) :
    Calls Try.prog 58 #[v, .int .i64 m] w fun e w' => e = .returned (.int .i64 ((m + n : Nat) : Int)) ∧ Below w.heap.size w w' := by
  unfold OwnT at h1
  rw [marksT_length] at h1
  obtain ⟨A1, c1, rfl⟩ := ownt_shape h1
  by_cases h0 : n = 0
  · subst h0
    clear h1
    go_enter Try.func58, Try.ntmps58
    go_wp2_with fail
    refine wp_loop_rounds 1 ?_
    rw [rounds_succ]
    go_wp2_with fail
    go_ret
    exact ⟨ret_int (by simp), Below.refl _ _⟩
  · obtain ⟨g1, hg1⟩ : ∃ g, A1 = some ⟨g, 0, none⟩ := by
      rcases h1.2 with ⟨h', h''⟩ | ⟨g, cap, cur, h', _⟩
      · exact absurd h'' h0
      · injection h' with h' _ _
        exact ⟨g, h'⟩
    subst hg1
    have H1 := Lib.hid h1
    clear h1 h0
    go_enter Try.func58, Try.ntmps58
    go_wp2_with fail
    go_loopw [1, 5] (fun kk i wr => ∃ j : Nat, j ≤ n ∧ i = .int .i64 j ∧ kk = .int .i64 ((m + j : Nat) : Int) ∧ Below w.heap.size w wr) (fun _ i _ => n - (intOf i).toNat)
    case atStart => exact ⟨0, Nat.zero_le _, rfl, rfl, Below.refl _ _⟩
    case round =>
      obtain ⟨j, hj, rfl, rfl, hb⟩ := hrel
      have HB := Lib.hid hb.drew
      have HB0 := Lib.hid hb
      clear hb
      by_cases hlt : j < n
      · have hk0 : (0 : Int) ≤ (j : Int) := by omega
        have hk1 : (j : Int) < (n : Int) := by omega
        have HC : Hid (∀ W, Below w.heap.size w W → W.cell? ⟨g1, j, none⟩ = some (.string (MT (m + j)))) := by
          show ∀ W, _
          intro W hb
          have h := (ownt_below H1.out hb).cellAt j (by omega)
          rw [h]
          simp [strVals, marksT, hlt]
        have HM := Lib.hid (fun W => markText_any (m + j) (by omega) W)
        generalize MT (m + j) = T at *
        have q0 := HC.out _ HB.out
        have hne : (T.toList != T.toList) = false := by simp
        go_wp2_with fail
        go_region_held3 (fun w' => w'.cell? ⟨g1, j, none⟩ = some (.string T)) ((first | with_reducible exact HC.out _ B7.out | with_reducible exact HC.out _ HB.out | fail))
          (first
            | (go_at_call 77; refine (HM.out _).mono ?_; rintro e u7 ⟨rfl, hb7⟩; have B7 := Lib.hid (HB.out.trans (hb7.mono HB.out.size)); have q0 := HC.out _ B7.out; clear hb7)
            | fail)
        all_goals go_wp2_with fail
        all_goals go_roundw
        all_goals first
          | exact ⟨j + 1, by omega, by go_num, by go_num, B7.out⟩
          | (simp [intOf]; omega)
      · obtain rfl : j = n := by omega
        go_wp2_with fail
        go_ret
        exact ⟨rfl, HB0.out⟩

/-- Two rows of texts are in blocks of their own. -/
def ApartT (v u : Value) : Prop := ∀ k, v.ownBlock = some k → u.ownBlock ≠ some k
theorem apartT_of {w w' : World} {base b2 : Nat} {v u : Value} {l l2 : List ByteArray} (h : OwnT w base v l) (h2 : OwnT w' b2 u l2) (hb : w.heap.size ≤ b2) : ApartT v u := by
  intro k h1 h3
  have a := (World.ownsRow.lt h k h1).2
  have b := (World.ownsRow.lt h2 k h3).1
  omega
theorem OwnT.mark {w w' : World} {base : Nat} {v u : Value} {l : List ByteArray} (h : OwnT w base v l) (ht : Trn u.ownBlock w w') (ha : ApartT v u) : OwnT w' base v l := ht.own h ha
theorem below_trn {B b2 : Nat} {w w1 w2 : World} {u : Value} {l : List ByteArray} (hb : Below B w w1) (ht : Trn u.ownBlock w1 w2) (hu : OwnT w1 b2 u l) (hB : B ≤ b2) (hs : B ≤ w1.heap.size) : Below B w w2 :=
  hb.trans (ht.to_below hs (fun k hk => by have := (World.ownsRow.lt hu k hk).1; omega))
end Go.Proofs.Ytijmfienaoeboab
