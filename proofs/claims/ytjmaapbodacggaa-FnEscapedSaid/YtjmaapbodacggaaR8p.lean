/- The model's l00Put, R8Special, R8Bytes: what the draws of bytes give. -/
import Derived.Test.YtjmaapbodacggaaR8n
import Derived.Test.YtjmaapbodacggaaEsc
namespace Go.Proofs.Ytjmaapbodacggaa
open Go Go.RowKit
set_option linter.unusedVariables false

/-- A number put to its place. -/
def putF (x : Int) : List Int → List Int
  | [] => [x]
  | y :: l => if y < x then y :: putF x l else if y = x then y :: l else x :: y :: l
theorem putF_len (x : Int) : ∀ l : List Int, (putF x l).length ≤ l.length + 1
  | [] => by simp [putF]
  | y :: l => by
    have := putF_len x l
    rw [putF]
    split
    · simp; omega
    · split
      · simp
      · simp
theorem putF_mem (x : Int) : ∀ (l : List Int) (z : Int), z ∈ putF x l ↔ z = x ∨ z ∈ l
  | [], z => by simp [putF]
  | y :: l, z => by
    have ih := putF_mem x l z
    rw [putF]
    split
    · simp only [List.mem_cons, ih]; constructor <;> (rintro (h | h | h) <;> simp [h])
    · split
      · rename_i h1 h2; subst h2; simp
      · simp
/-- How far the putting has come. -/
def PutR (L M : List Int) (x : Int) (i : Nat) (d : Bool) : Prop := M.length ≤ i + 1 ∧ (d = false → M.length ≤ i) ∧ putF x L = M ++ (if d = true then L.drop i else putF x (L.drop i))
theorem PutR.start (L : List Int) (x : Int) : PutR L [] x 0 false := ⟨by simp, fun _ => by simp, by simp⟩
theorem PutR.on {L M : List Int} {x : Int} {i : Nat} {y : Int} (h : PutR L M x i true) (hi : i < L.length) (hy : L[i] = y) : PutR L (M ++ [y]) x (i + 1) true := by
  refine ⟨by have := h.1; simp; omega, (fun e => absurd e (by decide)), ?_⟩
  rw [h.2.2, if_pos rfl, if_pos rfl, List.drop_eq_getElem_cons hi, hy]; simp
theorem PutR.low {L M : List Int} {x : Int} {i : Nat} {y : Int} (h : PutR L M x i false) (hi : i < L.length) (hy : L[i] = y) (hl : y < x) : PutR L (M ++ [y]) x (i + 1) false := by
  have h1 := h.2.1 rfl
  refine ⟨by simp; omega, fun _ => by simp; omega, ?_⟩
  rw [h.2.2, if_neg (by decide), if_neg (by decide), List.drop_eq_getElem_cons hi, hy, putF, if_pos hl]; simp
theorem PutR.same {L M : List Int} {x : Int} {i : Nat} {y : Int} (h : PutR L M x i false) (hi : i < L.length) (hy : L[i] = y) (hl : y = x) : PutR L (M ++ [y]) x (i + 1) true := by
  have h1 := h.2.1 rfl
  refine ⟨by simp; omega, (fun e => absurd e (by decide)), ?_⟩
  rw [h.2.2, if_neg (by decide), if_pos rfl, List.drop_eq_getElem_cons hi, hy, putF, if_neg (by omega), if_pos hl]; simp
theorem PutR.high {L M : List Int} {x : Int} {i : Nat} {y : Int} (h : PutR L M x i false) (hi : i < L.length) (hy : L[i] = y) (hl : x < y) : PutR L ((M ++ [x]) ++ [y]) x (i + 1) true := by
  have h1 := h.2.1 rfl
  refine ⟨by simp; omega, (fun e => absurd e (by decide)), ?_⟩
  rw [h.2.2, if_neg (by decide), if_pos rfl, List.drop_eq_getElem_cons hi, hy, putF, if_neg (by omega), if_neg (by omega)]; simp
theorem PutR.fin {L M : List Int} {x : Int} {i : Nat} (h : PutR L M x i true) (hi : L.length ≤ i) : putF x L = M := by rw [h.2.2, if_pos rfl, List.drop_of_length_le hi]; simp
theorem PutR.fin2 {L M : List Int} {x : Int} {i : Nat} (h : PutR L M x i false) (hi : L.length ≤ i) : putF x L = M ++ [x] := by rw [h.2.2, if_neg (by decide), List.drop_of_length_le hi]; rfl

set_option maxRecDepth 100000 in
set_option maxHeartbeats 2000000 in
theorem l00Put_any (w : World) (v : Value) (l : List Int) (x : Int) (h : Rd w v l) (hlen : l.length ≤ 100000) :
    Calls Try.prog 79 #[v, .int .i64 x] w fun e w' => ∃ u, e = .returned u ∧ Own w' w.heap.size u (putF x l) ∧ Below w.heap.size w w' := by
  obtain ⟨i0, hi, hz0, hz1, hz2⟩ := info_parts Try.infoInt
  have HV := Lib.hid h
  obtain ⟨A, n, c, rfl, hn, -, -, -⟩ := h
  have HN := Lib.hid hn
  rw [hn] at hlen
  clear hn
  go_enter Try.func79, Try.ntmps79
  go_wp2_with fail
  go_loopw [5, 6, 7] (fun v d i wr => ∃ (k : Nat) (M : List Int) (b : Bool), k ≤ n ∧ i = .int .i64 k ∧ d = .bool b ∧ PutR l M x k b ∧ Own wr w.heap.size v M ∧ Below w.heap.size w wr) (fun _ _ i _ => n - (intOf i).toNat)
  case atStart => exact ⟨0, [], false, Nat.zero_le _, rfl, rfl, PutR.start _ _, World.ownsRow_made w #[] 0 (Nat.le_refl _) (by decide) rfl, (Below.refl _ _).alloc (Nat.le_refl _) _⟩
  case round =>
    obtain ⟨k, M, b, hk, rfl, rfl, hp, hown, hbw⟩ := hrel
    have hML : M.length ≤ 100001 := by have := hp.1; omega
    have HP := Lib.hid hp
    clear hp
    by_cases hlt : k < n
    · have hkl : k < l.length := by have := HN.out; omega
      have hk0 : (0 : Int) ≤ (k : Int) := by omega
      have hk1 : (k : Int) < (n : Int) := by omega
      have HC : Hid (∀ (W : World) (hb : Below w.heap.size w W), ∃ g o, A = some ⟨g, o, none⟩ ∧ W.cell? ⟨g, o + k, none⟩ = some (.int .i64 l[k])) := by
        show ∀ (W : World) (hb : Below w.heap.size w W), _
        intro W hb
        obtain ⟨A', n', c', e', hn', -, -, r⟩ := HV.out.keep hb
        injection e' with e1 e2 e3
        subst e1; subst e2; subst e3
        obtain ⟨g, o, rfl, -, hc⟩ := r (by omega)
        exact ⟨g, o, rfl, hc k hkl⟩
      obtain ⟨g, o, rfl, hc0⟩ := HC.out _ hbw
      obtain ⟨y, hy⟩ : ∃ y, l[k] = y := ⟨_, rfl⟩
      rw [hy] at hc0
      have HY := Lib.hid hy
      cases b
      · by_cases h1 : y < x
        · have hge : ¬ x ≤ y := by omega
          have HP2 := Lib.hid (HP.out.low hkl hy h1)
          clear hy h1
          go_wp2_with (at_builtin; refine wpList_append_own _ rfl _ _ 22 rfl w.heap.size 2 i0 (.int .i64 0) 1 8 Try.underlying22 hi hz0 hz1 hz2 rfl (by decide) _ _ _ rfl (hown.alloc _) ⟨wr.heap.size, 0, none⟩ 1 1 [.int .i64 y] rfl rfl ?_ ?_ ?_ ?_ ?_ ?_)
          all_goals first | exact c1_int1 _ _ _ | rfl | (intro u hu; simp at hu; subst hu; rfl) | (unfold maxLen; first | omega | (simp; omega)) | (first | omega | (simp; omega)) | (have := hbw.size; simp at this ⊢; omega) | skip
          intro v1 w1 hown1 hgrow1 _
          have hb1 := below_int hbw hbw.size (Nat.le_refl _) hown hgrow1
          have ho1 : Own w1 w.heap.size v1 (M ++ [y]) := by
            refine own_of hown1 ?_ ?_
            · simp
            · simp [intVals]
          clear hown hgrow1 hown1 hc0
          go_wp2_with fail
          go_roundw
          case rel => exact ⟨k + 1, M ++ [y], false, by omega, by go_num, rfl, HP2.out, ho1, hb1⟩
          case measure => simp [intOf]; omega
        · have hge : x ≤ y := by omega
          by_cases h2 : y = x
          · have hgt : ¬ x < y := by omega
            have HP2 := Lib.hid (HP.out.same hkl hy h2)
            clear hy h1 h2
            go_wp2_with (at_builtin; refine wpList_append_own _ rfl _ _ 22 rfl w.heap.size 2 i0 (.int .i64 0) 1 8 Try.underlying22 hi hz0 hz1 hz2 rfl (by decide) _ _ _ rfl (hown.alloc _) ⟨wr.heap.size, 0, none⟩ 1 1 [.int .i64 y] rfl rfl ?_ ?_ ?_ ?_ ?_ ?_)
            all_goals first | exact c1_int1 _ _ _ | rfl | (intro u hu; simp at hu; subst hu; rfl) | (unfold maxLen; first | omega | (simp; omega)) | (first | omega | (simp; omega)) | (have := hbw.size; simp at this ⊢; omega) | skip
            intro v1 w1 hown1 hgrow1 _
            have hb1 := below_int hbw hbw.size (Nat.le_refl _) hown hgrow1
            have ho1 : Own w1 w.heap.size v1 (M ++ [y]) := by
              refine own_of hown1 ?_ ?_
              · simp
              · simp [intVals]
            clear hown hgrow1 hown1 hc0
            go_wp2_with fail
            go_roundw
            case rel => exact ⟨k + 1, M ++ [y], true, by omega, by go_num, rfl, HP2.out, ho1, hb1⟩
            case measure => simp [intOf]; omega
          · have hgt : x < y := by omega
            have HP2 := Lib.hid (HP.out.high hkl hy hgt)
            clear hy h1 h2
            go_wp2_with (at_builtin; refine wpList_append_own _ rfl _ _ 22 rfl w.heap.size 2 i0 (.int .i64 0) 1 8 Try.underlying22 hi hz0 hz1 hz2 rfl (by decide) _ _ _ rfl (hown.alloc _) ⟨wr.heap.size, 0, none⟩ 1 1 [.int .i64 x] rfl rfl ?_ ?_ ?_ ?_ ?_ ?_)
            all_goals first | exact c1_int1 _ _ _ | rfl | (intro u hu; simp at hu; subst hu; rfl) | (unfold maxLen; first | omega | (simp; omega)) | (first | omega | (simp; omega)) | (have := hbw.size; simp at this ⊢; omega) | skip
            intro v1 w1 hown1 hgrow1 _
            have hb1 := below_int hbw hbw.size (Nat.le_refl _) hown hgrow1
            have ho1 : Own w1 w.heap.size v1 (M ++ [x]) := by
              refine own_of hown1 ?_ ?_
              · simp
              · simp [intVals]
            have hc1 : w1.cell? ⟨g, o + k, none⟩ = some (.int .i64 y) := by
              obtain ⟨g', o', e', hc⟩ := HC.out _ hb1
              injection e' with e'
              injection e' with e1 e2 _
              subst e1; subst e2
              rw [← HY.out]; exact hc
            clear hown hgrow1 hown1 hc0
            go_wp2_with (at_builtin; refine wpList_append_own _ rfl _ _ 22 rfl w.heap.size 2 i0 (.int .i64 0) 1 8 Try.underlying22 hi hz0 hz1 hz2 rfl (by decide) _ _ _ rfl (ho1.alloc _) ⟨w1.heap.size, 0, none⟩ 1 1 [.int .i64 y] rfl rfl ?_ ?_ ?_ ?_ ?_ ?_)
            all_goals first | exact c1_int1 _ _ _ | rfl | (intro u hu; simp at hu; subst hu; rfl) | (unfold maxLen; first | omega | (simp; omega)) | (first | omega | (simp; omega)) | (have := hb1.size; simp at this ⊢; omega) | skip
            intro v2 w2 hown2 hgrow2 _
            have hb2 := below_int hb1 hb1.size (Nat.le_refl _) ho1 hgrow2
            have ho2 : Own w2 w.heap.size v2 ((M ++ [x]) ++ [y]) := by
              refine own_of hown2 ?_ ?_
              · simp
              · simp [intVals]
            clear ho1 hgrow2 hown2 hc1
            go_wp2_with fail
            go_roundw
            case rel => exact ⟨k + 1, (M ++ [x]) ++ [y], true, by omega, by go_num, rfl, HP2.out, ho2, hb2⟩
            case measure => simp [intOf]; omega
      · have HP2 := Lib.hid (HP.out.on hkl hy)
        clear hy
        go_wp2_with (at_builtin; refine wpList_append_own _ rfl _ _ 22 rfl w.heap.size 2 i0 (.int .i64 0) 1 8 Try.underlying22 hi hz0 hz1 hz2 rfl (by decide) _ _ _ rfl (hown.alloc _) ⟨wr.heap.size, 0, none⟩ 1 1 [.int .i64 y] rfl rfl ?_ ?_ ?_ ?_ ?_ ?_)
        all_goals first | exact c1_int1 _ _ _ | rfl | (intro u hu; simp at hu; subst hu; rfl) | (unfold maxLen; first | omega | (simp; omega)) | (first | omega | (simp; omega)) | (have := hbw.size; simp at this ⊢; omega) | skip
        intro v1 w1 hown1 hgrow1 _
        have hb1 := below_int hbw hbw.size (Nat.le_refl _) hown hgrow1
        have ho1 : Own w1 w.heap.size v1 (M ++ [y]) := by
          refine own_of hown1 ?_ ?_
          · simp
          · simp [intVals]
        clear hown hgrow1 hown1 hc0
        go_wp2_with fail
        go_roundw
        case rel => exact ⟨k + 1, M ++ [y], true, by omega, by go_num, rfl, HP2.out, ho1, hb1⟩
        case measure => simp [intOf]; omega
    · cases b
      · have HE := Lib.hid (HP.out.fin2 (by have := HN.out; omega))
        go_wp2_with (at_builtin; refine wpList_append_own _ rfl _ _ 22 rfl w.heap.size 2 i0 (.int .i64 0) 1 8 Try.underlying22 hi hz0 hz1 hz2 rfl (by decide) _ _ _ rfl (hown.alloc _) ⟨wr.heap.size, 0, none⟩ 1 1 [.int .i64 x] rfl rfl ?_ ?_ ?_ ?_ ?_ ?_)
        all_goals first | exact c1_int1 _ _ _ | rfl | (intro u hu; simp at hu; subst hu; rfl) | (unfold maxLen; first | omega | (simp; omega)) | (first | omega | (simp; omega)) | (have := hbw.size; simp at this ⊢; omega) | skip
        intro v1 w1 hown1 hgrow1 _
        have hb1 := below_int hbw hbw.size (Nat.le_refl _) hown hgrow1
        have ho1 : Own w1 w.heap.size v1 (M ++ [x]) := by
          refine own_of hown1 ?_ ?_
          · simp
          · simp [intVals]
        clear hown hgrow1 hown1
        go_wp2_with fail
        go_ret
        exact ⟨_, rfl, by rw [HE.out]; exact ho1, hb1⟩
      · have HE := Lib.hid (HP.out.fin (by have := HN.out; omega))
        go_wp2_with fail
        go_ret
        exact ⟨_, rfl, by rw [HE.out]; exact hown, hbw⟩

theorem own_one (w : World) (x : Int) : Own (w.alloc (.cells #[.int .i64 x] 2)) w.heap.size (.slice (some ⟨w.heap.size, 0, none⟩) 1 1) [x] := World.ownsRow_lit w #[.int .i64 x] 1 (Nat.le_refl _) (by decide) rfl
/-- Special bytes that draws give. -/
def SpD (l : List Int) (m : Nat) : Prop := l.length ≤ m ∧ 125 ∈ l ∧ (∀ z ∈ l, z ∈ [125, 0, 17, 19, 126, 255, 10]) ∧ l.Pairwise (· < ·)
theorem putF_rise (x : Int) : ∀ l : List Int, l.Pairwise (· < ·) → (putF x l).Pairwise (· < ·)
  | [], _ => by simp [putF]
  | y :: l, h => by
    obtain ⟨h1, h2⟩ := List.pairwise_cons.1 h
    rw [putF]
    split
    · rename_i hl
      refine List.pairwise_cons.2 ⟨fun z hz => ?_, putF_rise x l h2⟩
      rcases (putF_mem x l z).1 hz with rfl | hz
      · exact hl
      · exact h1 z hz
    · split
      · exact h
      · refine List.pairwise_cons.2 ⟨fun z hz => ?_, h⟩
        rcases List.mem_cons.1 hz with rfl | hz
        · omega
        · have := h1 z hz; omega
theorem SpD.start : SpD [125] 1 := ⟨by simp, by simp, by simp, by simp⟩
theorem SpD.put {l : List Int} {m : Nat} {x : Int} (h : SpD l m) (hx : x ∈ [(0 : Int), 17, 19, 126, 255, 10]) : SpD (putF x l) (m + 1) := by
  refine ⟨by have := putF_len x l; have := h.1; omega, (putF_mem x l _).2 (.inr h.2.1), fun z hz => ?_, putF_rise x l h.2.2.2⟩
  rcases (putF_mem x l z).1 hz with rfl | hz
  · exact List.mem_cons_of_mem _ hx
  · exact h.2.2.1 z hz
theorem gk_own {w w1 : World} {B k n : Nat} {base : Nat} {vc v : Value} {lc : List Value} {l : List Int} (h : Own w base v l) (hs : Src B vc lc k n w) (hg : w.grownBy w1 (some k)) : Own w1 base v l := by
  obtain ⟨a, z, h1, -⟩ := hs.cells
  exact h.kept hg (Or.inr (Lib.ownBlock_ne h h1 (by decide)))
theorem src_below {B k n : Nat} {vc : Value} {lc : List Value} {w w1 : World} (h : Src B vc lc k n w) (hb : Below w.heap.size w w1) : Src B vc lc k n w1 := h.keep hb

set_option maxRecDepth 100000 in
set_option maxHeartbeats 2000000 in
theorem r8Special_any (w : World) (v : Value) (l : List Value) (h : RdV (· < w.heap.size) w v l) (hb : ∀ x ∈ l, ∃ y : Int, x = .int .u8 y ∧ 0 ≤ y ∧ y ≤ 255) :
    Calls Try.prog 33 #[v] w fun e w' => ∃ u, e = .returned u ∧ ∃ L, SpD L 4 ∧ Own w' w.heap.size u L ∧ Below w.heap.size w w' := by
  have HF := Lib.hid (src_from v l w h hb)
  clear hb
  obtain ⟨A, n, c, rfl, -⟩ := h
  go_enter Try.func33, Try.ntmps33
  go_wp2_with fail
  refine HF.out.mono ?_; rintro e w1 ⟨rfl, hs1, hb1⟩
  obtain ⟨w2, hw2⟩ : ∃ w2, w2 = w1.alloc (.cells #[.int .i64 125] 2) := ⟨_, rfl⟩
  have HW2 := Lib.hid hw2
  have k2 : Below w1.heap.size w1 w2 := by rw [hw2]; exact (Below.refl _ _).alloc (Nat.le_refl _) _
  have S2 := Lib.hid (src_below hs1 k2)
  have B2 := Lib.hid (hb1.trans (k2.mono hb1.size))
  have O2 : Hid (Own w2 w.heap.size (.slice (some ⟨w1.heap.size, 0, none⟩) 1 1) [125]) := by
    show Own _ _ _ _
    rw [hw2]; exact (own_one w1 125).base hb1.size
  clear hs1 hb1 k2 hw2
  go_wp2_with fail
  rw [← HW2.out]
  refine (src_pick _ _ _ _ _ 4 _ (by decide) (by decide) S2.out).mono ?_; rintro e w3 ⟨r, rfl, ⟨r0, r1, -⟩, hs3, hg3⟩
  have r2 := r1 (by decide)
  have S3 := Lib.hid hs3
  have O3 := Lib.hid (gk_own O2.out S2.out hg3)
  have B3 := Lib.hid (gk_to B2.out hg3 B2.out.size (Nat.le_refl _))
  obtain ⟨t, rfl⟩ : ∃ t : Nat, r = (t : Int) := ⟨r.toNat, by omega⟩
  have ht : t ≤ 3 := by omega
  clear hs3 hg3 S2 O2 B2 r0 r1 r2
  go_wp2_with fail
  go_loopw [4, 5] (fun u i wr => ∃ (m : Nat) (L : List Int), m ≤ 3 ∧ i = .int .i64 m ∧ SpD L (4 - m) ∧ Own wr w.heap.size u L ∧ Src w.heap.size (.slice A n c) l w.heap.size (20 - 2 * m) wr ∧ Below w.heap.size w wr) (fun _ i _ => (intOf i).toNat)
  case atStart => exact ⟨t, [125], ht, rfl, ⟨by simp; omega, SpD.start.2⟩, O3.out, S3.out.more (by omega), B3.out⟩
  case round =>
    obtain ⟨m, L, hm, rfl, hsp, hown, hs, hbw⟩ := hrel
    have HO := Lib.hid hown
    have HS := Lib.hid hs
    have HB := Lib.hid hbw
    have HP := Lib.hid hsp
    clear hown hs hbw hsp S3 O3 B3
    by_cases hlt : 0 < m
    · have hlt' : (0 : Int) < (m : Int) := by omega
      have wm : IntKind.i64.wrap ((m : Int) - 1) = (m : Int) - 1 := IntWalk.i64_in _ (by omega)
      obtain ⟨w4, hw4⟩ : ∃ w4, w4 = wr.alloc (.cells #[.int .i64 0, .int .i64 17, .int .i64 19, .int .i64 126, .int .i64 255, .int .i64 10] 2) := ⟨_, rfl⟩
      have HW4 := Lib.hid hw4
      have k4 : Below wr.heap.size wr w4 := by rw [hw4]; exact (Below.refl _ _).alloc (Nat.le_refl _) _
      have R4 : Hid (RdV (· ≠ w.heap.size) w4 (.slice (some ⟨wr.heap.size, 0, none⟩) 6 6) (intVals [0, 17, 19, 126, 255, 10])) := by
        show RdV _ _ _ _
        rw [hw4]; exact rdv_lit [0, 17, 19, 126, 255, 10] _ _ rfl (HS.out.lt) (by decide)
      have S4 := Lib.hid (src_below HS.out k4)
      have B4 := Lib.hid (HB.out.trans (k4.mono HB.out.size))
      have O4 := Lib.hid (HO.out.keep k4)
      clear k4 hw4
      go_wp2_with fail
      rw [← HW4.out]
      refine (src_among _ _ _ _ _ _ [0, 17, 19, 126, 255, 10] _ (by omega) (by decide) S4.out R4.out).mono ?_; rintro e w5 ⟨x, rfl, hx, hs5, hg5⟩
      have S5 := Lib.hid hs5
      have O5 := Lib.hid (gk_own O4.out S4.out hg5)
      have B5 := Lib.hid (gk_to B4.out hg5 B4.out.size (Nat.le_refl _))
      have P5 := Lib.hid (HP.out.put hx)
      clear hs5 hg5 hx S4 O4 B4 R4
      have hL : L.length ≤ 100000 := by have := HP.out.1; omega
      go_wp2_with fail
      refine (l00Put_any _ _ L x O5.out.rd hL).mono ?_; rintro e w6 ⟨u6, rfl, ho6, hb6⟩
      have O6 := Lib.hid (ho6.base B5.out.size)
      have S6 := Lib.hid (src_below S5.out hb6)
      have B6 := Lib.hid (B5.out.trans (hb6.mono B5.out.size))
      clear ho6 hb6 O5 S5 B5
      go_wp2_with fail
      go_roundw
      case rel => exact ⟨m - 1, putF x L, by omega, by congr 1; omega, ⟨Nat.le_trans P5.out.1 (by omega), P5.out.2⟩, O6.out, S6.out.more (by omega), B6.out⟩
      case measure => simp [intOf]; omega
    · have hlt' : ¬ (0 : Int) < (m : Int) := by omega
      go_wp2_with fail
      go_ret
      exact ⟨_, rfl, L, ⟨Nat.le_trans HP.out.1 (by omega), HP.out.2⟩, HO.out, HB.out⟩

theorem src_app {B k m n : Nat} {vc : Value} {lc xs : List Value} {w w1 : World} {o : Obj} {v : Value} (h : Src B vc lc k m w) (hown : w.ownsRow B 2 1 v n xs) (hg : (w.alloc o).grownBy w1 v.ownBlock) : Src B vc lc k m w1 := by
  obtain ⟨a, z, h1, -⟩ := h.cells
  refine (h.keep ((Below.refl _ _).alloc (Nat.le_refl _) o)).grown hg (fun j hj => ⟨(hown.lt j hj).1, fun e => ?_⟩)
  subst e
  exact Lib.ownBlock_ne hown h1 (by decide) hj
/-- Bytes that draws give, m still to come. -/
def ByD (l : List Int) (m : Nat) : Prop := l.length + m ≤ 300 ∧ ∀ z ∈ l, 0 ≤ z ∧ z ≤ 255
theorem ByD.snoc {l : List Int} {m : Nat} {x : Int} (h : ByD l (m + 1)) (h0 : 0 ≤ x) (h1 : x ≤ 255) : ByD (l ++ [x]) m := by
  refine ⟨by have := h.1; simp; omega, fun z hz => ?_⟩
  rcases List.mem_append.1 hz with hz | hz
  · exact h.2 z hz
  · simp at hz; omega

set_option maxRecDepth 100000 in
set_option maxHeartbeats 4000000 in
theorem r8Bytes_any (w : World) (v : Value) (l : List Value) (h : RdV (· < w.heap.size) w v l) (hb : ∀ x ∈ l, ∃ y : Int, x = .int .u8 y ∧ 0 ≤ y ∧ y ≤ 255) :
    Calls Try.prog 34 #[v] w fun e w' => ∃ u, e = .returned u ∧ ∃ L, ByD L 0 ∧ Own w' w.heap.size u L ∧ Below w.heap.size w w' := by
  obtain ⟨i0, hi, hz0, hz1, hz2⟩ := info_parts Try.infoInt
  have HF := Lib.hid (src_from v l w h hb)
  clear hb
  obtain ⟨A, n, c, rfl, -⟩ := h
  go_enter Try.func34, Try.ntmps34
  go_wp2_with fail
  refine HF.out.mono ?_; rintro e w1 ⟨rfl, hs1, hb1⟩
  obtain ⟨w2, hw2⟩ : ∃ w2, w2 = w1.alloc (.cells #[] 2) := ⟨_, rfl⟩
  have HW2 := Lib.hid hw2
  have k2 : Below w1.heap.size w1 w2 := by rw [hw2]; exact (Below.refl _ _).alloc (Nat.le_refl _) _
  have S2 := Lib.hid (src_below hs1 k2)
  have B2 := Lib.hid (hb1.trans (k2.mono hb1.size))
  have O2 : Hid (Own w2 w.heap.size (.slice (some ⟨w1.heap.size, 0, none⟩) 0 0) []) := by
    show Own _ _ _ _
    rw [hw2]; exact Own.base (World.ownsRow_made w1 #[] 0 (Nat.le_refl _) (by decide) rfl) hb1.size
  clear hs1 hb1 k2 hw2
  go_wp2_with fail
  rw [← HW2.out]
  refine (src_pick _ _ _ _ _ 14 _ (by decide) (by decide) S2.out).mono ?_; rintro e w3 ⟨r, rfl, ⟨r0, r1, -⟩, hs3, hg3⟩
  have r2 := r1 (by decide)
  have S3 := Lib.hid hs3
  have O3 := Lib.hid (gk_own O2.out S2.out hg3)
  have B3 := Lib.hid (gk_to B2.out hg3 B2.out.size (Nat.le_refl _))
  clear hs3 hg3 S2 O2 B2 r1
  go_wp2_with fail
  refine (src_one _ _ _ _ _ 6 _ (by decide) (by decide) S3.out).mono ?_; rintro e w4 ⟨b4, rfl, hs4, hg4⟩
  have S4 := Lib.hid hs4
  have O4 := Lib.hid (gk_own O3.out S3.out hg4)
  have B4 := Lib.hid (gk_to B3.out hg4 B3.out.size (Nat.le_refl _))
  clear hs4 hg4 S3 O3 B3
  obtain ⟨w5, hw5⟩ : ∃ w5, w5 = w4.alloc (.cells #[.int .i64 253, .int .i64 254, .int .i64 255, .int .i64 300] 2) := ⟨_, rfl⟩
  have HW5 := Lib.hid hw5
  have k5 : Below w4.heap.size w4 w5 := by rw [hw5]; exact (Below.refl _ _).alloc (Nat.le_refl _) _
  have R5 : Hid (RdV (· ≠ w.heap.size) w5 (.slice (some ⟨w4.heap.size, 0, none⟩) 4 4) (intVals [253, 254, 255, 300])) := by
    show RdV _ _ _ _
    rw [hw5]; exact rdv_lit [253, 254, 255, 300] _ _ rfl (S4.out.lt) (by decide)
  have S5 := Lib.hid (src_below S4.out k5)
  have B5 := Lib.hid (B4.out.trans (k5.mono B4.out.size))
  have O5 := Lib.hid (O4.out.keep k5)
  clear k5 hw5
  -- the loop, from whatever number of bytes
  cases b4
  · clear S5 O5 B5 R5
    obtain ⟨t, rfl⟩ : ∃ t : Nat, r = (t : Int) := ⟨r.toNat, by omega⟩
    have ht : t ≤ 300 := by omega
    go_wp2_with fail
    have S6 := Lib.hid (S4.out.more (show 0 + 2 + 2 ≤ 6 by decide))
    have O6 := Lib.hid O4.out
    have B6 := Lib.hid B4.out
    clear S4 O4 B4 r0 r2
    refine (src_one _ _ _ _ _ 2 _ (by decide) (by decide) S6.out).mono ?_; rintro e w7 ⟨z7, rfl, hs7, hg7⟩
    have S7 := Lib.hid (hs7.more (show _ ≤ 8 by decide))
    have O7 := Lib.hid (gk_own O6.out S6.out hg7)
    have B7 := Lib.hid (gk_to B6.out hg7 B6.out.size (Nat.le_refl _))
    clear hs7 hg7 S6 O6 B6
    go_wp2_with fail
    go_loopw [4, 5, 7] (fun u i y wr => ∃ (m : Nat) (L : List Int), m ≤ 300 ∧ i = .int .i64 m ∧ ByD L m ∧ Own wr w.heap.size u L ∧ Src w.heap.size (.slice A n c) l w.heap.size (2000 - 6 * m) wr ∧ Below w.heap.size w wr) (fun _ i _ _ => (intOf i).toNat)
    case atStart => exact ⟨t, [], ht, rfl, ⟨by simp; omega, by simp⟩, O7.out, S7.out.more (by omega), B7.out⟩
    case round =>
      obtain ⟨m, L, hm, rfl, hby, hown, hs, hbw⟩ := hrel
      have HO := Lib.hid hown
      have HS := Lib.hid hs
      have HB := Lib.hid hbw
      have HP := Lib.hid hby
      clear hown hs hbw hby S7 O7 B7
      by_cases hlt : 0 < m
      · obtain ⟨m, rfl⟩ : ∃ m', m = m' + 1 := ⟨m - 1, by omega⟩
        have hlt' : (0 : Int) < ((m + 1 : Nat) : Int) := by omega
        have wm : IntKind.i64.wrap (((m + 1 : Nat) : Int) - 1) = (m : Int) := by rw [IntWalk.i64_in _ (by omega)]; omega
        have hL : L.length ≤ 300 := by have := HP.out.1; omega
        go_wp2_with fail
        refine (src_pick _ _ _ _ _ 255 _ (by omega) (by decide) HS.out).mono ?_; rintro e w8 ⟨x, rfl, ⟨x0, x1, -⟩, hs8, hg8⟩
        have x2 := x1 (by decide)
        have S8 := Lib.hid hs8
        have O8 := Lib.hid (gk_own HO.out HS.out hg8)
        have B8 := Lib.hid (gk_to HB.out hg8 HB.out.size (Nat.le_refl _))
        clear hs8 hg8 HO HS HB x1
        have wx : IntKind.i64.wrap (1 + x) = 1 + x := IntWalk.i64_in _ (by omega)
        cases z7
        ·
          have P8 : Hid (ByD (L ++ [1 + x]) m) := HP.out.snoc (by omega) (by omega)
          have hrow := O8.out
          go_wp2_with (at_builtin; refine wpList_append_own _ rfl _ _ 22 rfl w.heap.size 2 i0 (.int .i64 0) 1 8 Try.underlying22 hi hz0 hz1 hz2 rfl (by decide) _ _ _ rfl (World.ownsRow.alloc hrow _) ⟨w8.heap.size, 0, none⟩ 1 1 [.int .i64 (1 + x)] rfl rfl ?_ ?_ ?_ ?_ ?_ ?_)
          all_goals first | exact c1_int1 _ _ _ | rfl | (intro u hu; simp at hu; subst hu; rfl) | (unfold maxLen; first | omega | (simp; omega)) | (first | omega | (simp; omega)) | (have := B8.out.size; simp at this ⊢; omega) | skip
          intro v1 wz hown1 hgrow1 _
          have BZ := Lib.hid (below_int B8.out B8.out.size (Nat.le_refl _) hrow hgrow1)
          have OZ : Hid (Own wz w.heap.size v1 (L ++ [1 + x])) := by
            show Own _ _ _ _
            refine own_of hown1 ?_ ?_
            · simp
            · simp [intVals]
          have SZ := Lib.hid (src_app S8.out hrow hgrow1)
          clear hrow hgrow1 hown1 O8 S8 B8
          go_wp2_with fail
          go_roundw
          case rel => exact ⟨m, L ++ [1 + x], by omega, by first | rfl | (congr 1; omega), P8.out, OZ.out, SZ.out.more (by omega), BZ.out⟩
          case measure => first | (simp [intOf]; done) | (simp [intOf]; omega)
        · go_wp2_with fail
          refine (src_one _ _ _ _ _ 4 _ (by omega) (by decide) S8.out).mono ?_; rintro e w9 ⟨z9, rfl, hs9, hg9⟩
          have S9 := Lib.hid hs9
          have O9 := Lib.hid (gk_own O8.out S8.out hg9)
          have B9 := Lib.hid (gk_to B8.out hg9 B8.out.size (Nat.le_refl _))
          clear hs9 hg9 O8 S8 B8
          obtain ⟨wa, hwa⟩ : ∃ wa, wa = w9.alloc (.cells #[.int .i64 0, .int .i64 125, .int .i64 126, .int .i64 93, .int .i64 94] 2) := ⟨_, rfl⟩
          have HWA := Lib.hid hwa
          have ka : Below w9.heap.size w9 wa := by rw [hwa]; exact (Below.refl _ _).alloc (Nat.le_refl _) _
          have RA : Hid (RdV (· ≠ w.heap.size) wa (.slice (some ⟨w9.heap.size, 0, none⟩) 5 5) (intVals [0, 125, 126, 93, 94])) := by
            show RdV _ _ _ _
            rw [hwa]; exact rdv_lit [0, 125, 126, 93, 94] _ _ rfl (S9.out.lt) (by decide)
          have SA := Lib.hid (src_below S9.out ka)
          have BA := Lib.hid (B9.out.trans (ka.mono B9.out.size))
          have OA := Lib.hid (O9.out.keep ka)
          clear ka hwa
          cases z9
          · clear SA BA OA RA
            have P9 : Hid (ByD (L ++ [1 + x]) m) := HP.out.snoc (by omega) (by omega)
            have hrow := O9.out
            go_wp2_with (at_builtin; refine wpList_append_own _ rfl _ _ 22 rfl w.heap.size 2 i0 (.int .i64 0) 1 8 Try.underlying22 hi hz0 hz1 hz2 rfl (by decide) _ _ _ rfl (World.ownsRow.alloc hrow _) ⟨w9.heap.size, 0, none⟩ 1 1 [.int .i64 (1 + x)] rfl rfl ?_ ?_ ?_ ?_ ?_ ?_)
            all_goals first | exact c1_int1 _ _ _ | rfl | (intro u hu; simp at hu; subst hu; rfl) | (unfold maxLen; first | omega | (simp; omega)) | (first | omega | (simp; omega)) | (have := B9.out.size; simp at this ⊢; omega) | skip
            intro v1 wz hown1 hgrow1 _
            have BZ := Lib.hid (below_int B9.out B9.out.size (Nat.le_refl _) hrow hgrow1)
            have OZ : Hid (Own wz w.heap.size v1 (L ++ [1 + x])) := by
              show Own _ _ _ _
              refine own_of hown1 ?_ ?_
              · simp
              · simp [intVals]
            have SZ := Lib.hid (src_app S9.out hrow hgrow1)
            clear hrow hgrow1 hown1 O9 S9 B9
            go_wp2_with fail
            go_roundw
            case rel => exact ⟨m, L ++ [1 + x], by omega, by first | rfl | (congr 1; omega), P9.out, OZ.out, SZ.out.more (by omega), BZ.out⟩
            case measure => first | (simp [intOf]; done) | (simp [intOf]; omega)
          · go_wp2_with fail
            rw [← HWA.out]
            refine (src_among _ _ _ _ _ _ [0, 125, 126, 93, 94] _ (by omega) (by decide) SA.out RA.out).mono ?_; rintro e wb ⟨y, rfl, hy, hsb, hgb⟩
            have hy2 : 0 ≤ y ∧ y ≤ 255 := by simp at hy; omega
            have SB := Lib.hid hsb
            have OB := Lib.hid (gk_own OA.out SA.out hgb)
            have BB := Lib.hid (gk_to BA.out hgb BA.out.size (Nat.le_refl _))
            clear hsb hgb hy S9 O9 B9 SA OA BA RA
            have PB : Hid (ByD (L ++ [y]) m) := HP.out.snoc hy2.1 hy2.2
            have hrow := OB.out
            go_wp2_with (at_builtin; refine wpList_append_own _ rfl _ _ 22 rfl w.heap.size 2 i0 (.int .i64 0) 1 8 Try.underlying22 hi hz0 hz1 hz2 rfl (by decide) _ _ _ rfl (World.ownsRow.alloc hrow _) ⟨wb.heap.size, 0, none⟩ 1 1 [.int .i64 (y)] rfl rfl ?_ ?_ ?_ ?_ ?_ ?_)
            all_goals first | exact c1_int1 _ _ _ | rfl | (intro u hu; simp at hu; subst hu; rfl) | (unfold maxLen; first | omega | (simp; omega)) | (first | omega | (simp; omega)) | (have := BB.out.size; simp at this ⊢; omega) | skip
            intro v1 wz hown1 hgrow1 _
            have BZ := Lib.hid (below_int BB.out BB.out.size (Nat.le_refl _) hrow hgrow1)
            have OZ : Hid (Own wz w.heap.size v1 (L ++ [y])) := by
              show Own _ _ _ _
              refine own_of hown1 ?_ ?_
              · simp
              · simp [intVals]
            have SZ := Lib.hid (src_app SB.out hrow hgrow1)
            clear hrow hgrow1 hown1 OB SB BB
            go_wp2_with fail
            go_roundw
            case rel => exact ⟨m, L ++ [y], by omega, by first | rfl | (congr 1; omega), PB.out, OZ.out, SZ.out.more (by omega), BZ.out⟩
            case measure => first | (simp [intOf]; done) | (simp [intOf]; omega)
      · have hlt' : ¬ (0 : Int) < (m : Int) := by omega
        obtain rfl : m = 0 := by omega
        go_wp2_with fail
        go_ret
        exact ⟨_, rfl, L, HP.out, HO.out, HB.out⟩
  · obtain ⟨t0, rfl⟩ : ∃ t : Nat, r = (t : Int) := ⟨r.toNat, by omega⟩
    go_wp2_with fail
    rw [← HW5.out]
    refine (src_among _ _ _ _ _ _ [253, 254, 255, 300] _ (by decide) (by decide) S5.out R5.out).mono ?_; rintro e w6 ⟨r6, rfl, hr6, hs6, hg6⟩
    have hr7 : 0 ≤ r6 ∧ r6 ≤ 300 := by simp at hr6; omega
    obtain ⟨t, rfl⟩ : ∃ t : Nat, r6 = (t : Int) := ⟨r6.toNat, by omega⟩
    have ht : t ≤ 300 := by omega
    have S6 := Lib.hid hs6
    have O6 := Lib.hid (gk_own O5.out S5.out hg6)
    have B6 := Lib.hid (gk_to B5.out hg6 B5.out.size (Nat.le_refl _))
    clear hs6 hg6 S5 O5 B5 R5 S4 O4 B4 r0 r2 hr6 hr7
    go_wp2_with fail
    refine (src_one _ _ _ _ _ 2 _ (by decide) (by decide) S6.out).mono ?_; rintro e w7 ⟨z7, rfl, hs7, hg7⟩
    have S7 := Lib.hid (hs7.more (show _ ≤ 8 by decide))
    have O7 := Lib.hid (gk_own O6.out S6.out hg7)
    have B7 := Lib.hid (gk_to B6.out hg7 B6.out.size (Nat.le_refl _))
    clear hs7 hg7 S6 O6 B6
    go_wp2_with fail
    go_loopw [4, 5, 7] (fun u i y wr => ∃ (m : Nat) (L : List Int), m ≤ 300 ∧ i = .int .i64 m ∧ ByD L m ∧ Own wr w.heap.size u L ∧ Src w.heap.size (.slice A n c) l w.heap.size (2000 - 6 * m) wr ∧ Below w.heap.size w wr) (fun _ i _ _ => (intOf i).toNat)
    case atStart => exact ⟨t, [], ht, rfl, ⟨by simp; omega, by simp⟩, O7.out, S7.out.more (by omega), B7.out⟩
    case round =>
      obtain ⟨m, L, hm, rfl, hby, hown, hs, hbw⟩ := hrel
      have HO := Lib.hid hown
      have HS := Lib.hid hs
      have HB := Lib.hid hbw
      have HP := Lib.hid hby
      clear hown hs hbw hby S7 O7 B7
      by_cases hlt : 0 < m
      · obtain ⟨m, rfl⟩ : ∃ m', m = m' + 1 := ⟨m - 1, by omega⟩
        have hlt' : (0 : Int) < ((m + 1 : Nat) : Int) := by omega
        have wm : IntKind.i64.wrap (((m + 1 : Nat) : Int) - 1) = (m : Int) := by rw [IntWalk.i64_in _ (by omega)]; omega
        have hL : L.length ≤ 300 := by have := HP.out.1; omega
        go_wp2_with fail
        refine (src_pick _ _ _ _ _ 255 _ (by omega) (by decide) HS.out).mono ?_; rintro e w8 ⟨x, rfl, ⟨x0, x1, -⟩, hs8, hg8⟩
        have x2 := x1 (by decide)
        have S8 := Lib.hid hs8
        have O8 := Lib.hid (gk_own HO.out HS.out hg8)
        have B8 := Lib.hid (gk_to HB.out hg8 HB.out.size (Nat.le_refl _))
        clear hs8 hg8 HO HS HB x1
        have wx : IntKind.i64.wrap (1 + x) = 1 + x := IntWalk.i64_in _ (by omega)
        cases z7
        ·
          have P8 : Hid (ByD (L ++ [1 + x]) m) := HP.out.snoc (by omega) (by omega)
          have hrow := O8.out
          go_wp2_with (at_builtin; refine wpList_append_own _ rfl _ _ 22 rfl w.heap.size 2 i0 (.int .i64 0) 1 8 Try.underlying22 hi hz0 hz1 hz2 rfl (by decide) _ _ _ rfl (World.ownsRow.alloc hrow _) ⟨w8.heap.size, 0, none⟩ 1 1 [.int .i64 (1 + x)] rfl rfl ?_ ?_ ?_ ?_ ?_ ?_)
          all_goals first | exact c1_int1 _ _ _ | rfl | (intro u hu; simp at hu; subst hu; rfl) | (unfold maxLen; first | omega | (simp; omega)) | (first | omega | (simp; omega)) | (have := B8.out.size; simp at this ⊢; omega) | skip
          intro v1 wz hown1 hgrow1 _
          have BZ := Lib.hid (below_int B8.out B8.out.size (Nat.le_refl _) hrow hgrow1)
          have OZ : Hid (Own wz w.heap.size v1 (L ++ [1 + x])) := by
            show Own _ _ _ _
            refine own_of hown1 ?_ ?_
            · simp
            · simp [intVals]
          have SZ := Lib.hid (src_app S8.out hrow hgrow1)
          clear hrow hgrow1 hown1 O8 S8 B8
          go_wp2_with fail
          go_roundw
          case rel => exact ⟨m, L ++ [1 + x], by omega, by first | rfl | (congr 1; omega), P8.out, OZ.out, SZ.out.more (by omega), BZ.out⟩
          case measure => first | (simp [intOf]; done) | (simp [intOf]; omega)
        · go_wp2_with fail
          refine (src_one _ _ _ _ _ 4 _ (by omega) (by decide) S8.out).mono ?_; rintro e w9 ⟨z9, rfl, hs9, hg9⟩
          have S9 := Lib.hid hs9
          have O9 := Lib.hid (gk_own O8.out S8.out hg9)
          have B9 := Lib.hid (gk_to B8.out hg9 B8.out.size (Nat.le_refl _))
          clear hs9 hg9 O8 S8 B8
          obtain ⟨wa, hwa⟩ : ∃ wa, wa = w9.alloc (.cells #[.int .i64 0, .int .i64 125, .int .i64 126, .int .i64 93, .int .i64 94] 2) := ⟨_, rfl⟩
          have HWA := Lib.hid hwa
          have ka : Below w9.heap.size w9 wa := by rw [hwa]; exact (Below.refl _ _).alloc (Nat.le_refl _) _
          have RA : Hid (RdV (· ≠ w.heap.size) wa (.slice (some ⟨w9.heap.size, 0, none⟩) 5 5) (intVals [0, 125, 126, 93, 94])) := by
            show RdV _ _ _ _
            rw [hwa]; exact rdv_lit [0, 125, 126, 93, 94] _ _ rfl (S9.out.lt) (by decide)
          have SA := Lib.hid (src_below S9.out ka)
          have BA := Lib.hid (B9.out.trans (ka.mono B9.out.size))
          have OA := Lib.hid (O9.out.keep ka)
          clear ka hwa
          cases z9
          · clear SA BA OA RA
            have P9 : Hid (ByD (L ++ [1 + x]) m) := HP.out.snoc (by omega) (by omega)
            have hrow := O9.out
            go_wp2_with (at_builtin; refine wpList_append_own _ rfl _ _ 22 rfl w.heap.size 2 i0 (.int .i64 0) 1 8 Try.underlying22 hi hz0 hz1 hz2 rfl (by decide) _ _ _ rfl (World.ownsRow.alloc hrow _) ⟨w9.heap.size, 0, none⟩ 1 1 [.int .i64 (1 + x)] rfl rfl ?_ ?_ ?_ ?_ ?_ ?_)
            all_goals first | exact c1_int1 _ _ _ | rfl | (intro u hu; simp at hu; subst hu; rfl) | (unfold maxLen; first | omega | (simp; omega)) | (first | omega | (simp; omega)) | (have := B9.out.size; simp at this ⊢; omega) | skip
            intro v1 wz hown1 hgrow1 _
            have BZ := Lib.hid (below_int B9.out B9.out.size (Nat.le_refl _) hrow hgrow1)
            have OZ : Hid (Own wz w.heap.size v1 (L ++ [1 + x])) := by
              show Own _ _ _ _
              refine own_of hown1 ?_ ?_
              · simp
              · simp [intVals]
            have SZ := Lib.hid (src_app S9.out hrow hgrow1)
            clear hrow hgrow1 hown1 O9 S9 B9
            go_wp2_with fail
            go_roundw
            case rel => exact ⟨m, L ++ [1 + x], by omega, by first | rfl | (congr 1; omega), P9.out, OZ.out, SZ.out.more (by omega), BZ.out⟩
            case measure => first | (simp [intOf]; done) | (simp [intOf]; omega)
          · go_wp2_with fail
            rw [← HWA.out]
            refine (src_among _ _ _ _ _ _ [0, 125, 126, 93, 94] _ (by omega) (by decide) SA.out RA.out).mono ?_; rintro e wb ⟨y, rfl, hy, hsb, hgb⟩
            have hy2 : 0 ≤ y ∧ y ≤ 255 := by simp at hy; omega
            have SB := Lib.hid hsb
            have OB := Lib.hid (gk_own OA.out SA.out hgb)
            have BB := Lib.hid (gk_to BA.out hgb BA.out.size (Nat.le_refl _))
            clear hsb hgb hy S9 O9 B9 SA OA BA RA
            have PB : Hid (ByD (L ++ [y]) m) := HP.out.snoc hy2.1 hy2.2
            have hrow := OB.out
            go_wp2_with (at_builtin; refine wpList_append_own _ rfl _ _ 22 rfl w.heap.size 2 i0 (.int .i64 0) 1 8 Try.underlying22 hi hz0 hz1 hz2 rfl (by decide) _ _ _ rfl (World.ownsRow.alloc hrow _) ⟨wb.heap.size, 0, none⟩ 1 1 [.int .i64 (y)] rfl rfl ?_ ?_ ?_ ?_ ?_ ?_)
            all_goals first | exact c1_int1 _ _ _ | rfl | (intro u hu; simp at hu; subst hu; rfl) | (unfold maxLen; first | omega | (simp; omega)) | (first | omega | (simp; omega)) | (have := BB.out.size; simp at this ⊢; omega) | skip
            intro v1 wz hown1 hgrow1 _
            have BZ := Lib.hid (below_int BB.out BB.out.size (Nat.le_refl _) hrow hgrow1)
            have OZ : Hid (Own wz w.heap.size v1 (L ++ [y])) := by
              show Own _ _ _ _
              refine own_of hown1 ?_ ?_
              · simp
              · simp [intVals]
            have SZ := Lib.hid (src_app SB.out hrow hgrow1)
            clear hrow hgrow1 hown1 OB SB BB
            go_wp2_with fail
            go_roundw
            case rel => exact ⟨m, L ++ [y], by omega, by first | rfl | (congr 1; omega), PB.out, OZ.out, SZ.out.more (by omega), BZ.out⟩
            case measure => first | (simp [intOf]; done) | (simp [intOf]; omega)
      · have hlt' : ¬ (0 : Int) < (m : Int) := by omega
        obtain rfl : m = 0 := by omega
        go_wp2_with fail
        go_ret
        exact ⟨_, rfl, L, HP.out, HO.out, HB.out⟩
end Go.Proofs.Ytjmaapbodacggaa
