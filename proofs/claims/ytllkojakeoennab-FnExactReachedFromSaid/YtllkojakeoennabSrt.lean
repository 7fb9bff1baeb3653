/- slices.Sort of at most 12 numbers, in a row of the call's own: an insertion sort. -/
import Derived.Test.YtllkojakeoennabInts
import Derived.BigRegion
import Derived.Deep.QuietTactic
import Derived.BigQuiet
import Derived.Laws.OwnMore
namespace Go.Proofs.Ytllkojakeoennab
open Go Go.RowKit
set_option linter.unusedVariables false

theorem isNaN_any (x : Int) (w : World) : Calls Try.prog 187 #[.int .i64 x] w fun e w' => e = .returned (.bool false) ∧ w = w' := by
  have h : (x != x) = false := by simp
  go_enter Try.func187, Try.ntmps187
  go_wp2_with fail
  go_ret
  exact ⟨rfl, rfl⟩
theorem less_any (x y : Int) (w : World) : Calls Try.prog 176 #[.int .i64 x, .int .i64 y] w fun e w' => e = .returned (.bool (decide (x < y))) ∧ w = w' := by
  have H := Lib.hid (fun W => isNaN_any x W)
  by_cases h : x < y
  · go_enter Try.func176, Try.ntmps176
    go_wp2_with fail
    refine (H.out _).mono ?_; rintro e w' ⟨rfl, rfl⟩
    go_wp2_with fail
    go_ret
    exact ⟨ret_bool (by first | exact (decide_eq_true h).symm | simp), rfl⟩
  · go_enter Try.func176, Try.ntmps176
    go_wp2_with fail
    refine (H.out _).mono ?_; rintro e w' ⟨rfl, rfl⟩
    go_wp2_with fail
    go_ret
    exact ⟨ret_bool (by first | exact (decide_eq_false h).symm | simp), rfl⟩
/-- How far the insertion has come: x goes down among what is sorted. -/
structure InsR (l A B C : List Int) (x : Int) (k j : Nat) : Prop where
  perm : (A ++ x :: (B ++ C)).Perm l
  srt : (A ++ B).Pairwise (· ≤ ·)
  le : ∀ b ∈ B, x ≤ b
  la : A.length = j
  lb : A.length + B.length = k
theorem InsR.start {l R : List Int} {k : Nat} (hp : R.Perm l) (hk : k < R.length) (hs : (R.take k).Pairwise (· ≤ ·)) : InsR l (R.take k) [] (R.drop (k + 1)) R[k] k k :=
  ⟨by rw [List.nil_append, ← List.drop_eq_getElem_cons hk, List.take_append_drop]; exact hp, by simpa using hs, by simp, by simp; omega, by simp; omega⟩
theorem InsR.down {l A B C : List Int} {x y : Int} {k j : Nat} (h : InsR l (A ++ [y]) B C x k (j + 1)) (hxy : x < y) : InsR l A (y :: B) C x k j := by
  refine ⟨?_, by simpa using h.srt, ?_, by have := h.la; simp at this; omega, by have := h.lb; simp at this ⊢; omega⟩
  · refine List.Perm.trans ?_ h.perm
    rw [List.append_assoc]
    refine List.Perm.append_left A ?_
    exact List.Perm.swap y x (B ++ C)
  · intro b hb
    rcases List.mem_cons.1 hb with rfl | hb
    · omega
    · exact h.le b hb
theorem InsR.stop {l A B C : List Int} {x : Int} {k j : Nat} (h : InsR l A B C x k j) (hl : ∀ y ∈ A, y ≤ x) : (A ++ x :: (B ++ C)).Perm l ∧ ((A ++ x :: (B ++ C)).take (k + 1)).Pairwise (· ≤ ·) := by
  refine ⟨h.perm, ?_⟩
  have e : (A ++ x :: (B ++ C)).take (k + 1) = A ++ x :: B := by
    have h1 := h.lb
    rw [show A ++ x :: (B ++ C) = (A ++ x :: B) ++ C from by simp, List.take_left' (by simp; omega)]
  rw [e]
  obtain ⟨h1, h2, h3⟩ := List.pairwise_append.1 h.srt
  refine List.pairwise_append.2 ⟨h1, List.pairwise_cons.2 ⟨h.le, h2⟩, fun a ha b hb => ?_⟩
  rcases List.mem_cons.1 hb with rfl | hb
  · exact hl a ha
  · exact h3 a ha b hb
theorem InsR.last {l A B C : List Int} {x y : Int} {k j : Nat} (h : InsR l (A ++ [y]) B C x k j) (hxy : ¬ x < y) : ∀ z ∈ A ++ [y], z ≤ x := by
  intro z hz
  obtain ⟨h1, -, -⟩ := List.pairwise_append.1 h.srt
  obtain ⟨-, -, h3⟩ := List.pairwise_append.1 h1
  rcases List.mem_append.1 hz with hz | hz
  · have := h3 z hz y (by simp); omega
  · simp at hz; omega
theorem snoc_of {A : List Int} {j : Nat} (h : A.length = j + 1) : ∃ A' y, A = A' ++ [y] := by
  refine ⟨A.dropLast, A.getLast (by intro e; rw [e] at h; simp at h), ?_⟩
  exact (List.dropLast_concat_getLast _).symm

/-- Only one row has turned, and no new block has come. -/
theorem gs_refl (w : World) (g : Nat) : w.grownBy w (some g) := World.grownBy.refl _ _
theorem gs_set {w w1 : World} {b : Nat} (h : w.grownBy w1 (some b)) (j : Nat) (x : Value) : w.grownBy (w1.setCell ⟨b, j, none⟩ x) (some b) :=
  ⟨h.os, h.tape, h.output, by have := h.size; simp [World.setCell]; exact this, fun k hk hne => (Below.heap_setCell _ _ _ _ (by intro e; exact hne (by rw [e]))).trans (h.block k hk hne)⟩
theorem gs_drewN {w w1 : World} {row : Option Nat} (h : w.grownBy w1 row) (q : Nat) : w.grownBy (w1.drewN q) row := ⟨h.os, h.tape, h.output, h.size, h.block⟩
theorem srt_at {A D : List Int} {x : Int} {j : Nat} (h : A.length = j) : (intVals (A ++ x :: D))[j]? = some (.int .i64 x) := by
  subst h; simp [intVals]
theorem srt_at1 {A D : List Int} {x y : Int} {j : Nat} (h : A.length = j) : (intVals ((A ++ [y]) ++ x :: D))[j]? = some (.int .i64 y) := by
  subst h; simp [intVals]
theorem srt_swap {A D : List Int} {x y : Int} {j : Nat} (h : A.length = j) : ((intVals ((A ++ [y]) ++ x :: D)).set (j + 1) (.int .i64 y)).set j (.int .i64 x) = intVals (A ++ x :: (y :: D)) := by
  subst h
  simp [intVals]

set_option maxRecDepth 100000 in
set_option maxHeartbeats 4000000 in
theorem insertion_any (w : World) (base g n c : Nat) (l : List Int) (h : w.ownsRow base 2 1 (.slice (some ⟨g, 0, none⟩) n c) n (intVals l)) (hn : 1 ≤ n ∧ n ≤ 12) (hl : l.length = n) :
    Calls Try.prog 170 #[.slice (some ⟨g, 0, none⟩) n c, .int .i64 0, .int .i64 n] w fun e w' => e = .returned (.tuple #[]) ∧ ∃ R : List Int, (R.Perm l ∧ R.Pairwise (· ≤ ·)) ∧ w'.ownsRow base 2 1 (.slice (some ⟨g, 0, none⟩) n c) n (intVals R) ∧ w.grownBy w' (some g) := by
  obtain ⟨n1, n2⟩ := hn
  have HL := Lib.hid hl
  have H1 : Hid ((l.take 1).Pairwise (· ≤ ·)) := by
    show List.Pairwise _ _
    cases l with
    | nil => exact List.Pairwise.nil
    | cons x l => simp
  have H0 := Lib.hid h
  clear hl h
  go_enter Try.func170, Try.ntmps170
  go_wp2_with fail
  go_loopw [6] (fun i wr => ∃ (k : Nat) (R : List Int), 1 ≤ k ∧ k ≤ n ∧ i = .int .i64 k ∧ (R.Perm l ∧ (R.take k).Pairwise (· ≤ ·)) ∧ wr.ownsRow base 2 1 (.slice (some ⟨g, 0, none⟩) n c) n (intVals R) ∧ w.grownBy wr (some g)) (fun i _ => n - (intOf i).toNat)
  case atStart => exact ⟨1, l, Nat.le_refl _, n1, rfl, ⟨List.Perm.refl _, H1.out⟩, H0.out, gs_refl _ _⟩
  case round =>
    obtain ⟨k, R, hk1, hk, rfl, hpr, hown, hgr⟩ := hrel
    have HP := Lib.hid hpr
    have HO := Lib.hid hown
    have HG := Lib.hid hgr
    clear hpr hown hgr H0
    by_cases hlt : k < n
    · have hlt' : (k : Int) < (n : Int) := by omega
      have hkR : k < R.length := by rw [HP.out.1.length_eq, HL.out]; exact hlt
      have HS := Lib.hid (InsR.start HP.out.1 hkR HP.out.2)
      have HRE : Hid (R = R.take k ++ R[k] :: ([] ++ R.drop (k + 1))) := by show _ = _; rw [List.nil_append, ← List.drop_eq_getElem_cons hkR, List.take_append_drop]
      go_wp2_with fail
      go_loopw [7] (fun jv wr2 => ∃ (j : Nat) (A B C : List Int) (x : Int), j ≤ k ∧ jv = .int .i64 j ∧ InsR l A B C x k j ∧ wr2.ownsRow base 2 1 (.slice (some ⟨g, 0, none⟩) n c) n (intVals (A ++ x :: (B ++ C))) ∧ w.grownBy wr2 (some g)) (fun jv _ => (intOf jv).toNat)
      case atStart => exact ⟨k, R.take k, [], R.drop (k + 1), R[k], Nat.le_refl _, rfl, HS.out, by rw [← HRE.out]; exact HO.out, HG.out⟩
      case round =>
        obtain ⟨j, A, B, C, x, hj, rfl, hins, hown, hgr⟩ := hrel
        have HI := Lib.hid hins
        have HO2 := Lib.hid hown
        have HG2 := Lib.hid hgr
        clear hins hown hgr HO HG HS HRE HP hkR
        cases j with
        | zero =>
          have HE := Lib.hid (HI.out.stop (by intro y hy; have := HI.out.la; rw [List.length_eq_zero_iff.1 this] at hy; cases hy))
          have d1 : ¬ (0 : Int) < ((0 : Nat) : Int) := by omega
          go_wp2_with fail
          go_quiet (fail)
          go_wp2_with fail
          go_roundw
          case rel => exact ⟨k + 1, _, by omega, by omega, by go_num, HE.out, HO2.out, gs_drewN HG2.out _⟩
          case measure => first | (simp [intOf]; done) | (simp [intOf]; omega)
        | succ j =>
          obtain ⟨A, y, rfl⟩ := snoc_of HI.out.la
          have HA : Hid (A.length = j) := by show _ = _; have := HI.out.la; simp at this; exact this
          have d0 : (0 : Int) < (j : Int) + 1 := by omega
          have d2 : (0 : Int) ≤ (j : Int) + 1 := by omega
          have d3 : ((j : Int) + 1).toNat = j + 1 := by omega
          have d4 : (j : Int) + 1 < (n : Int) := by omega
          have d5 : (0 : Int) ≤ (j : Int) := by omega
          have d6 : (j : Int) < (n : Int) := by omega
          have wj : IntKind.i64.wrap ((j : Int) + 1 - 1) = (j : Int) := by rw [IntWalk.i64_in _ (by omega)]; omega
          have hx := World.ownsRow.cellAt HO2.out (j + 1) (by omega)
          rw [srt_at (show (A ++ [y]).length = j + 1 by simp; exact HA.out)] at hx
          have hy := World.ownsRow.cellAt HO2.out j (by omega)
          rw [srt_at1 HA.out] at hy
          by_cases hxy : x < y
          · have HLT : Hid (∀ W, Calls Try.prog 176 #[.int .i64 x, .int .i64 y] W fun e w' => e = .returned (.bool true) ∧ w' = W) := by
              show ∀ W, _
              intro W
              have h := less_any x y W
              rw [decide_eq_true hxy] at h
              exact h.mono fun e w' ⟨h1, h2⟩ => ⟨h1, h2.symm⟩
            have HD := Lib.hid (HI.out.down hxy)
            clear hxy
            go_wp2_with fail
            go_quiet ((go_at_call 176; exact Calls.quiet_of_same (HLT.out _)))
            have fx := World.ownsRow.frozenAt HO2.out (j + 1)
            have fy := World.ownsRow.frozenAt HO2.out j
            go_wp2_with fail
            have HST : Hid (∀ q, (((wr.drewN q).setCell ⟨g, j + 1, none⟩ (.int .i64 y)).setCell ⟨g, j, none⟩ (.int .i64 x)).ownsRow base 2 1 (.slice (some ⟨g, 0, none⟩) n c) n (intVals (A ++ x :: ((y :: B) ++ C)))) := by
              show ∀ q, _
              intro q
              have h := ((World.ownsRow.stored (own_drewN HO2.out q) (j + 1) (.int .i64 y)).1.stored j (.int .i64 x)).1
              rw [srt_swap HA.out] at h
              exact h
            go_region
            go_wp2_with fail
            go_roundw
            case rel => exact ⟨j, A, y :: B, C, x, by omega, by go_num, HD.out, HST.out _, gs_set (gs_set (gs_drewN HG2.out _) _ _) _ _⟩
            case measure => first | (simp [intOf]; done) | (simp [intOf]; omega)
          · have HLT : Hid (∀ W, Calls Try.prog 176 #[.int .i64 x, .int .i64 y] W fun e w' => e = .returned (.bool false) ∧ w' = W) := by
              show ∀ W, _
              intro W
              have h := less_any x y W
              rw [decide_eq_false hxy] at h
              exact h.mono fun e w' ⟨h1, h2⟩ => ⟨h1, h2.symm⟩
            have HE := Lib.hid (HI.out.stop (HI.out.last hxy))
            clear hxy
            go_wp2_with fail
            go_quiet ((go_at_call 176; exact Calls.quiet_of_same (HLT.out _)))
            go_wp2_with fail
            go_roundw
            case rel => exact ⟨k + 1, _, by omega, by omega, by go_num, HE.out, HO2.out, gs_drewN HG2.out _⟩
            case measure => first | (simp [intOf]; done) | (simp [intOf]; omega)
    · obtain rfl : k = n := by omega
      have HR : Hid (R.take k = R) := by show _ = _; rw [List.take_of_length_le]; rw [HP.out.1.length_eq, HL.out]; exact Nat.le_refl _
      go_wp2_with fail
      go_end0
      exact ⟨rfl, R, ⟨HP.out.1, by have := HP.out.2; rw [HR.out] at this; exact this⟩, HO.out, HG.out⟩

set_option maxRecDepth 100000 in
set_option maxHeartbeats 2000000 in
theorem len_any (n : Nat) (hn : n ≤ 12) (w : World) :
    Calls Try.prog 161 #[.int .u64 n] w fun e w' => ∃ r : Int, e = .returned (.int .i64 r) ∧ w = w' := by
  have H64 : Hid (∀ W, Calls Try.prog 180 #[.int .u64 n] W fun e w' => ∃ r : Int, e = .returned (.int .i64 r) ∧ W = w') := by
    show ∀ W, _
    intro W
    have h1 : ¬ (4294967296 : Int) ≤ (n : Int) := by omega
    have h2 : ¬ (65536 : Int) ≤ (n : Int) := by omega
    have h3 : ¬ (256 : Int) ≤ (n : Int) := by omega
    have h4 : IntKind.u8.wrap (n : Int) = (n : Int) := IntWalk.u8_in _ (by omega)
    have h5 : (0 : Int) ≤ (n : Int) := by omega
    have h6 : (n : Int) < 256 := by omega
    go_enter Try.func180, Try.ntmps180
    go_wp2_with fail
    go_ret
    exact ⟨⟨_, rfl⟩, rfl⟩
  go_enter Try.func161, Try.ntmps161
  go_wp2_with fail
  refine (H64.out _).mono ?_; rintro e w' ⟨r, rfl, rfl⟩
  go_wp2_with fail
  go_ret
  exact ⟨r, rfl, rfl⟩

set_option maxRecDepth 100000 in
theorem sort_any (w : World) (base : Nat) (v : Value) (l : List Int) (h : w.ownsRow base 2 1 v l.length (intVals l)) (hn : 1 ≤ l.length ∧ l.length ≤ 12) :
    Calls Try.prog 146 #[v] w fun e w' => e = .returned (.tuple #[]) ∧ ∃ R : List Int, (R.Perm l ∧ R.Pairwise (· ≤ ·)) ∧ w'.ownsRow base 2 1 v l.length (intVals R) ∧ w.grownBy w' v.ownBlock := by
  obtain ⟨g, c, rfl, -⟩ := own_some h (by omega)
  have HI : Hid (∀ k : Nat, k = l.length → Calls Try.prog 170 #[.slice (some ⟨g, 0, none⟩) k c, .int .i64 0, .int .i64 k] w fun e w' => e = .returned (.tuple #[]) ∧ ∃ R : List Int, (R.Perm l ∧ R.Pairwise (· ≤ ·)) ∧ w'.ownsRow base 2 1 (.slice (some ⟨g, 0, none⟩) k c) k (intVals R) ∧ w.grownBy w' (some g)) := by
    show ∀ k : Nat, _
    rintro k rfl
    exact insertion_any w base g l.length c l h hn rfl
  generalize l.length = n at *
  have HI := Lib.hid (HI.out n rfl)
  obtain ⟨n1, n2⟩ := hn
  have HL := Lib.hid (len_any n n2)
  have hpd : Hid (∀ r : Int, Calls Try.prog 160 #[.slice (some ⟨g, 0, none⟩) n c, .int .i64 0, .int .i64 n, .int .i64 r] w fun e w' => e = .returned (.tuple #[]) ∧ ∃ R : List Int, (R.Perm l ∧ R.Pairwise (· ≤ ·)) ∧ w'.ownsRow base 2 1 (.slice (some ⟨g, 0, none⟩) n c) n (intVals R) ∧ w.grownBy w' (some g)) := by
    show ∀ r : Int, _
    intro r
    have h1 : (n : Int) ≤ 12 := by omega
    go_enter Try.func160, Try.ntmps160
    go_wp2_with fail
    refine wp_loop_rounds 1 ?_
    rw [rounds_succ]
    go_wp2_with fail
    refine HI.out.mono ?_; rintro e w1 ⟨rfl, R, hp, ho, hg⟩
    have HP := Lib.hid (And.intro hp (And.intro ho hg))
    clear hp ho hg
    go_wp2_with fail
    refine bodyPost_ret (results_none rfl _ _ _) rfl ⟨rfl, R, HP.out.1, HP.out.2.1, HP.out.2.2⟩
  clear h
  go_enter Try.func146, Try.ntmps146
  go_wp2_with fail
  refine (HL.out _).mono ?_; rintro e w1 ⟨r, rfl, rfl⟩
  go_wp2_with fail
  refine (hpd.out r).mono ?_; rintro e w1 ⟨rfl, R, hp, ho, hg⟩
  have HP := Lib.hid (And.intro hp (And.intro ho hg))
  clear hp ho hg
  go_wp2_with fail
  go_end0
  exact ⟨rfl, R, HP.out.1, HP.out.2.1, HP.out.2.2⟩
end Go.Proofs.Ytllkojakeoennab
