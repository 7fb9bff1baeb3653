/- Needs that are drawn. -/
import Derived.Test.YtjhgkkecconcaabR8p
import Derived.Test.YtjhgkkecconcaabB10
namespace Go.Proofs.Ytjhgkkecconcaab
open Go Go.RowKit
set_option linter.unusedVariables false

/-- What has been drawn, and how many are still to come. -/
def NdD (L : List Int) (m : Nat) : Prop := L.length + m ≤ 6 ∧ 1 ≤ L.length + m ∧ ∀ x ∈ L, 0 ≤ x ∧ x ≤ 7
theorem NdD.snoc {L : List Int} {m : Nat} {x : Int} (h : NdD L (m + 1)) (h0 : 0 ≤ x) (h1 : x ≤ 7) : NdD (L ++ [x]) m := by
  refine ⟨by have := h.1; simp; omega, by have := h.2.1; simp; omega, fun y hy => ?_⟩
  rcases List.mem_append.1 hy with hy | hy
  · exact h.2.2 y hy
  · simp at hy; omega
set_option maxRecDepth 100000 in
set_option maxHeartbeats 4000000 in
theorem b10Needs_any (w : World) (v : Value) (l : List Value) (h : RdV (· < w.heap.size) w v l) (hb : ∀ x ∈ l, ∃ y : Int, x = .int .u8 y ∧ 0 ≤ y ∧ y ≤ 255) :
    Calls Try.prog 29 #[v] w fun e w' => ∃ u, e = .returned u ∧ ∃ L, NdD L 0 ∧ Own w' w.heap.size u L ∧ Below w.heap.size w w' := by
  obtain ⟨i0, hi, hz0, hz1, hz2⟩ := info_parts Try.infoInt
  have HF := Lib.hid (src_from v l w h hb)
  clear hb
  obtain ⟨A, n, c, rfl, -⟩ := h
  go_enter Try.func29, Try.ntmps29
  go_wp2_with fail
  refine HF.out.mono ?_; rintro e w1 ⟨rfl, hs1, hb1⟩
  obtain ⟨w2, hw2⟩ : ∃ w2, w2 = w1.alloc (.cells #[] 2) := ⟨_, rfl⟩
  have HW2 := Lib.hid hw2
  have k2 : Below w1.heap.size w1 w2 := by rw [hw2]; exact (Below.refl _ _).alloc (Nat.le_refl _) _
  have S2 := Lib.hid (src_below hs1 k2)
  have B2 := Lib.hid (hb1.trans (k2.mono hb1.size))
  have O2 : Hid (Own w2 w.heap.size (.slice (some ⟨w1.heap.size, 0, none⟩) 0 0) []) := by
    show Own _ _ _ _
    rw [hw2]; exact Own.base (World.ownsRow_made w1 #[] 0 (Nat.le_refl _) (by decide) rfl) hb1.size
  clear hs1 hb1 k2 hw2
  go_wp2_with fail
  rw [← HW2.out]
  refine (src_pick _ _ _ _ _ 6 _ (by decide) (by decide) S2.out).mono ?_; rintro e w3 ⟨r, rfl, ⟨r0, r1, -⟩, hs3, hg3⟩
  have r2 := r1 (by decide)
  have S3 := Lib.hid hs3
  have O3 := Lib.hid (gk_own O2.out S2.out hg3)
  have B3 := Lib.hid (gk_to B2.out hg3 B2.out.size (Nat.le_refl _))
  clear hs3 hg3 S2 O2 B2 r1
  obtain ⟨t, rfl⟩ : ∃ t : Nat, r = (t : Int) := ⟨r.toNat, by omega⟩
  have ht : t ≤ 5 := by omega
  clear r0 r2
  go_wp2_with fail
  go_loopw [4, 5] (fun u i wr => ∃ (m : Nat) (L : List Int), m ≤ 6 ∧ i = .int .i64 m ∧ NdD L m ∧ Own wr w.heap.size u L ∧ Src w.heap.size (.slice A n c) l w.heap.size (2000 - 6 * m) wr ∧ Below w.heap.size w wr) (fun _ i _ => (intOf i).toNat)
  case atStart => exact ⟨t + 1, [], by omega, by first | rfl | (congr 1; omega), ⟨by simp; omega, by simp, by simp⟩, O3.out, S3.out.more (by omega), B3.out⟩
  case round =>
    obtain ⟨m, L, hm, rfl, hby, hown, hs, hbw⟩ := hrel
    have HO := Lib.hid hown
    have HS := Lib.hid hs
    have HB := Lib.hid hbw
    have HP := Lib.hid hby
    clear hown hs hbw hby S3 O3 B3
    by_cases hlt : 0 < m
    · obtain ⟨m, rfl⟩ : ∃ m', m = m' + 1 := ⟨m - 1, by omega⟩
      have hlt' : (0 : Int) < ((m + 1 : Nat) : Int) := by omega
      have wm : IntKind.i64.wrap (((m + 1 : Nat) : Int) - 1) = (m : Int) := by rw [IntWalk.i64_in _ (by omega)]; omega
      have hL : L.length ≤ 6 := by have := HP.out.1; omega
      go_wp2_with fail
      refine (src_pick _ _ _ _ _ 8 _ (by omega) (by decide) HS.out).mono ?_; rintro e w8 ⟨x, rfl, ⟨x0, x1, -⟩, hs8, hg8⟩
      have x2 := x1 (by decide)
      have S8 := Lib.hid hs8
      have O8 := Lib.hid (gk_own HO.out HS.out hg8)
      have B8 := Lib.hid (gk_to HB.out hg8 HB.out.size (Nat.le_refl _))
      have P8 : Hid (NdD (L ++ [x]) m) := HP.out.snoc (by omega) (by omega)
      clear hs8 hg8 HO HS HB x1 HP
      have hrow := O8.out
      go_wp2_with (at_builtin; refine wpList_append_own _ rfl _ _ 22 rfl w.heap.size 2 i0 (.int .i64 0) 1 8 Try.underlying22 hi hz0 hz1 hz2 rfl (by decide) _ _ _ rfl (World.ownsRow.alloc hrow _) ⟨w8.heap.size, 0, none⟩ 1 1 [.int .i64 x] rfl rfl ?_ ?_ ?_ ?_ ?_ ?_)
      all_goals first | exact c1_int1 _ _ _ | rfl | (intro u hu; simp at hu; subst hu; rfl) | (unfold maxLen; first | omega | (simp; omega)) | (first | omega | (simp; omega)) | (have := B8.out.size; simp at this ⊢; omega) | skip
      intro v1 wz hown1 hgrow1 _
      have BZ := Lib.hid (below_int B8.out B8.out.size (Nat.le_refl _) hrow hgrow1)
      have OZ : Hid (Own wz w.heap.size v1 (L ++ [x])) := by
        show Own _ _ _ _
        refine own_of hown1 ?_ ?_
        · simp
        · simp [intVals]
      have SZ := Lib.hid (src_app S8.out hrow hgrow1)
      clear hrow hgrow1 hown1 O8 S8 B8
      go_wp2_with fail
      go_roundw
      case rel => exact ⟨m, L ++ [x], by omega, by first | rfl | (congr 1; omega), P8.out, OZ.out, SZ.out.more (by omega), BZ.out⟩
      case measure => first | (simp [intOf]; done) | (simp [intOf]; omega)
    · obtain rfl : m = 0 := by omega
      go_wp2_with fail
      go_ret
      exact ⟨_, rfl, L, HP.out, HO.out, HB.out⟩
end Go.Proofs.Ytjhgkkecconcaab
