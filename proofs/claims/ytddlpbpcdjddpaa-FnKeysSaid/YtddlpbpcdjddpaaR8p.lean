/- The model's l00Put, R8Special, R8Bytes: what the draws of bytes give. -/
import Derived.Test.YtddlpbpcdjddpaaR8n
import Derived.Test.YtddlpbpcdjddpaaEsc
namespace Go.Proofs.Ytddlpbpcdjddpaa
open Go Go.RowKit
set_option linter.unusedVariables false

/-- A number put to its place. -/
def putF (x : Int) : List Int → List Int
  | [] => [x]
  | y :: l => if y < x then y :: putF x l else if y = x then y :: l else x :: y :: l
theorem putF_len (x : Int) : ∀ l : List Int, (putF x l).length ≤ l.length + 1
  | [] => by simp [putF]
  | y :: l => by
    have := putF_len x l
    rw [putF]
    split
    · simp; omega
    · split
      · simp
      · simp
theorem putF_mem (x : Int) : ∀ (l : List Int) (z : Int), z ∈ putF x l ↔ z = x ∨ z ∈ l
  | [], z => by simp [putF]
  | y :: l, z => by
    have ih := putF_mem x l z
    rw [putF]
    split
    · simp only [List.mem_cons, ih]; constructor <;> (rintro (h | h | h) <;> simp [h])
    · split
      · rename_i h1 h2; subst h2; simp
      · simp
/-- How far the putting has come. -/
def PutR (L M : List Int) (x : Int) (i : Nat) (d : Bool) : Prop := M.length ≤ i + 1 ∧ (d = false → M.length ≤ i) ∧ putF x L = M ++ (if d = true then L.drop i else putF x (L.drop i))
theorem PutR.start (L : List Int) (x : Int) : PutR L [] x 0 false := ⟨by simp, fun _ => by simp, by simp⟩
theorem PutR.on {L M : List Int} {x : Int} {i : Nat} {y : Int} (h : PutR L M x i true) (hi : i < L.length) (hy : L[i] = y) : PutR L (M ++ [y]) x (i + 1) true := by
  refine ⟨by have := h.1; simp; omega, (fun e => absurd e (by decide)), ?_⟩
  rw [h.2.2, if_pos rfl, if_pos rfl, List.drop_eq_getElem_cons hi, hy]; simp
theorem PutR.low {L M : List Int} {x : Int} {i : Nat} {y : Int} (h : PutR L M x i false) (hi : i < L.length) (hy : L[i] = y) (hl : y < x) : PutR L (M ++ [y]) x (i + 1) false := by
  have h1 := h.2.1 rfl
  refine ⟨by simp; omega, fun _ => by simp; omega, ?_⟩
  rw [h.2.2, if_neg (by decide), if_neg (by decide), List.drop_eq_getElem_cons hi, hy, putF, if_pos hl]; simp
theorem PutR.same {L M : List Int} {x : Int} {i : Nat} {y : Int} (h : PutR L M x i false) (hi : i < L.length) (hy : L[i] = y) (hl : y = x) : PutR L (M ++ [y]) x (i + 1) true := by
  have h1 := h.2.1 rfl
  refine ⟨by simp; omega, (fun e => absurd e (by decide)), ?_⟩
  rw [h.2.2, if_neg (by decide), if_pos rfl, List.drop_eq_getElem_cons hi, hy, putF, if_neg (by omega), if_pos hl]; simp
theorem PutR.high {L M : List Int} {x : Int} {i : Nat} {y : Int} (h : PutR L M x i false) (hi : i < L.length) (hy : L[i] = y) (hl : x < y) : PutR L ((M ++ [x]) ++ [y]) x (i + 1) true := by
  have h1 := h.2.1 rfl
  refine ⟨by simp; omega, (fun e => absurd e (by decide)), ?_⟩
  rw [h.2.2, if_neg (by decide), if_pos rfl, List.drop_eq_getElem_cons hi, hy, putF, if_neg (by omega), if_neg (by omega)]; simp
theorem PutR.fin {L M : List Int} {x : Int} {i : Nat} (h : PutR L M x i true) (hi : L.length ≤ i) : putF x L = M := by rw [h.2.2, if_pos rfl, List.drop_of_length_le hi]; simp
theorem PutR.fin2 {L M : List Int} {x : Int} {i : Nat} (h : PutR L M x i false) (hi : L.length ≤ i) : putF x L = M ++ [x] := by rw [h.2.2, if_neg (by decide), List.drop_of_length_le hi]; rfl

set_option maxRecDepth 100000 in
set_option maxHeartbeats 2000000 in
theorem l00Put_any (w : World) (v : Value) (l : List Int) (x : Int) (h : Rd w v l) (hlen : l.length ≤ 100000) :
    Calls Try.prog 61 #[v, .int .i64 x] w fun e w' => ∃ u, e = .returned u ∧ Own w' w.heap.size u (putF x l) ∧ Below w.heap.size w w' := by
  obtain ⟨i0, hi, hz0, hz1, hz2⟩ := info_parts Try.infoInt
  have HV := Lib.hid h
  obtain ⟨A, n, c, rfl, hn, -, -, -⟩ := h
  have HN := Lib.hid hn
  rw [hn] at hlen
  clear hn
  go_enter Try.func61, Try.ntmps61
  go_wp2_with fail
  go_loopw [5, 6, 7] (fun v d i wr => ∃ (k : Nat) (M : List Int) (b : Bool), k ≤ n ∧ i = .int .i64 k ∧ d = .bool b ∧ PutR l M x k b ∧ Own wr w.heap.size v M ∧ Below w.heap.size w wr) (fun _ _ i _ => n - (intOf i).toNat)
  case atStart => exact ⟨0, [], false, Nat.zero_le _, rfl, rfl, PutR.start _ _, World.ownsRow_made w #[] 0 (Nat.le_refl _) (by decide) rfl, (Below.refl _ _).alloc (Nat.le_refl _) _⟩
  case round =>
    obtain ⟨k, M, b, hk, rfl, rfl, hp, hown, hbw⟩ := hrel
    have hML : M.length ≤ 100001 := by have := hp.1; omega
    have HP := Lib.hid hp
    clear hp
    by_cases hlt : k < n
    · have hkl : k < l.length := by have := HN.out; omega
      have hk0 : (0 : Int) ≤ (k : Int) := by omega
      have hk1 : (k : Int) < (n : Int) := by omega
      have HC : Hid (∀ (W : World) (hb : Below w.heap.size w W), ∃ g o, A = some ⟨g, o, none⟩ ∧ W.cell? ⟨g, o + k, none⟩ = some (.int .i64 l[k])) := by
        show ∀ (W : World) (hb : Below w.heap.size w W), _
        intro W hb
        obtain ⟨A', n', c', e', hn', -, -, r⟩ := HV.out.keep hb
        injection e' with e1 e2 e3
        subst e1; subst e2; subst e3
        obtain ⟨g, o, rfl, -, hc⟩ := r (by omega)
        exact ⟨g, o, rfl, hc k hkl⟩
      obtain ⟨g, o, rfl, hc0⟩ := HC.out _ hbw
      obtain ⟨y, hy⟩ : ∃ y, l[k] = y := ⟨_, rfl⟩
      rw [hy] at hc0
      have HY := Lib.hid hy
      cases b
      · by_cases h1 : y < x
        · have hge : ¬ x ≤ y := by omega
          have HP2 := Lib.hid (HP.out.low hkl hy h1)
          clear hy h1
          go_wp2_with (at_builtin; refine wpList_append_own _ rfl _ _ 22 rfl w.heap.size 2 i0 (.int .i64 0) 1 8 Try.underlying22 hi hz0 hz1 hz2 rfl (by decide) _ _ _ rfl (hown.alloc _) ⟨wr.heap.size, 0, none⟩ 1 1 [.int .i64 y] rfl rfl ?_ ?_ ?_ ?_ ?_ ?_)
          all_goals first | exact c1_int1 _ _ _ | rfl | (intro u hu; simp at hu; subst hu; rfl) | (unfold maxLen; first | omega | (simp; omega)) | (first | omega | (simp; omega)) | (have := hbw.size; simp at this ⊢; omega) | skip
          intro v1 w1 hown1 hgrow1 _
          have hb1 := below_int hbw hbw.size (Nat.le_refl _) hown hgrow1
          have ho1 : Own w1 w.heap.size v1 (M ++ [y]) := by
            refine own_of hown1 ?_ ?_
            · simp
            · simp [intVals]
          clear hown hgrow1 hown1 hc0
          go_wp2_with fail
          go_roundw
          case rel => exact ⟨k + 1, M ++ [y], false, by omega, by go_num, rfl, HP2.out, ho1, hb1⟩
          case measure => simp [intOf]; omega
        · have hge : x ≤ y := by omega
          by_cases h2 : y = x
          · have hgt : ¬ x < y := by omega
            have HP2 := Lib.hid (HP.out.same hkl hy h2)
            clear hy h1 h2
            go_wp2_with (at_builtin; refine wpList_append_own _ rfl _ _ 22 rfl w.heap.size 2 i0 (.int .i64 0) 1 8 Try.underlying22 hi hz0 hz1 hz2 rfl (by decide) _ _ _ rfl (hown.alloc _) ⟨wr.heap.size, 0, none⟩ 1 1 [.int .i64 y] rfl rfl ?_ ?_ ?_ ?_ ?_ ?_)
            all_goals first | exact c1_int1 _ _ _ | rfl | (intro u hu; simp at hu; subst hu; rfl) | (unfold maxLen; first | omega | (simp; omega)) | (first | omega | (simp; omega)) | (have := hbw.size; simp at this ⊢; omega) | skip
            intro v1 w1 hown1 hgrow1 _
            have hb1 := below_int hbw hbw.size (Nat.le_refl _) hown hgrow1
            have ho1 : Own w1 w.heap.size v1 (M ++ [y]) := by
              refine own_of hown1 ?_ ?_
              · simp
              · simp [intVals]
            clear hown hgrow1 hown1 hc0
            go_wp2_with fail
            go_roundw
            case rel => exact ⟨k + 1, M ++ [y], true, by omega, by go_num, rfl, HP2.out, ho1, hb1⟩
            case measure => simp [intOf]; omega
          · have hgt : x < y := by omega
            have HP2 := Lib.hid (HP.out.high hkl hy hgt)
            clear hy h1 h2
            go_wp2_with (at_builtin; refine wpList_append_own _ rfl _ _ 22 rfl w.heap.size 2 i0 (.int .i64 0) 1 8 Try.underlying22 hi hz0 hz1 hz2 rfl (by decide) _ _ _ rfl (hown.alloc _) ⟨wr.heap.size, 0, none⟩ 1 1 [.int .i64 x] rfl rfl ?_ ?_ ?_ ?_ ?_ ?_)
            all_goals first | exact c1_int1 _ _ _ | rfl | (intro u hu; simp at hu; subst hu; rfl) | (unfold maxLen; first | omega | (simp; omega)) | (first | omega | (simp; omega)) | (have := hbw.size; simp at this ⊢; omega) | skip
            intro v1 w1 hown1 hgrow1 _
            have hb1 := below_int hbw hbw.size (Nat.le_refl _) hown hgrow1
            have ho1 : Own w1 w.heap.size v1 (M ++ [x]) := by
              refine own_of hown1 ?_ ?_
              · simp
              · simp [intVals]
            have hc1 : w1.cell? ⟨g, o + k, none⟩ = some (.int .i64 y) := by
              obtain ⟨g', o', e', hc⟩ := HC.out _ hb1
              injection e' with e'
              injection e' with e1 e2 _
              subst e1; subst e2
              rw [← HY.out]; exact hc
            clear hown hgrow1 hown1 hc0
            go_wp2_with (at_builtin; refine wpList_append_own _ rfl _ _ 22 rfl w.heap.size 2 i0 (.int .i64 0) 1 8 Try.underlying22 hi hz0 hz1 hz2 rfl (by decide) _ _ _ rfl (ho1.alloc _) ⟨w1.heap.size, 0, none⟩ 1 1 [.int .i64 y] rfl rfl ?_ ?_ ?_ ?_ ?_ ?_)
            all_goals first | exact c1_int1 _ _ _ | rfl | (intro u hu; simp at hu; subst hu; rfl) | (unfold maxLen; first | omega | (simp; omega)) | (first | omega | (simp; omega)) | (have := hb1.size; simp at this ⊢; omega) | skip
            intro v2 w2 hown2 hgrow2 _
            have hb2 := below_int hb1 hb1.size (Nat.le_refl _) ho1 hgrow2
            have ho2 : Own w2 w.heap.size v2 ((M ++ [x]) ++ [y]) := by
              refine own_of hown2 ?_ ?_
              · simp
              · simp [intVals]
            clear ho1 hgrow2 hown2 hc1
            go_wp2_with fail
            go_roundw
            case rel => exact ⟨k + 1, (M ++ [x]) ++ [y], true, by omega, by go_num, rfl, HP2.out, ho2, hb2⟩
            case measure => simp [intOf]; omega
      · have HP2 := Lib.hid (HP.out.on hkl hy)
        clear hy
        go_wp2_with (at_builtin; refine wpList_append_own _ rfl _ _ 22 rfl w.heap.size 2 i0 (.int .i64 0) 1 8 Try.underlying22 hi hz0 hz1 hz2 rfl (by decide) _ _ _ rfl (hown.alloc _) ⟨wr.heap.size, 0, none⟩ 1 1 [.int .i64 y] rfl rfl ?_ ?_ ?_ ?_ ?_ ?_)
        all_goals first | exact c1_int1 _ _ _ | rfl | (intro u hu; simp at hu; subst hu; rfl) | (unfold maxLen; first | omega | (simp; omega)) | (first | omega | (simp; omega)) | (have := hbw.size; simp at this ⊢; omega) | skip
        intro v1 w1 hown1 hgrow1 _
        have hb1 := below_int hbw hbw.size (Nat.le_refl _) hown hgrow1
        have ho1 : Own w1 w.heap.size v1 (M ++ [y]) := by
          refine own_of hown1 ?_ ?_
          · simp
          · simp [intVals]
        clear hown hgrow1 hown1 hc0
        go_wp2_with fail
        go_roundw
        case rel => exact ⟨k + 1, M ++ [y], true, by omega, by go_num, rfl, HP2.out, ho1, hb1⟩
        case measure => simp [intOf]; omega
    · cases b
      · have HE := Lib.hid (HP.out.fin2 (by have := HN.out; omega))
        go_wp2_with (at_builtin; refine wpList_append_own _ rfl _ _ 22 rfl w.heap.size 2 i0 (.int .i64 0) 1 8 Try.underlying22 hi hz0 hz1 hz2 rfl (by decide) _ _ _ rfl (hown.alloc _) ⟨wr.heap.size, 0, none⟩ 1 1 [.int .i64 x] rfl rfl ?_ ?_ ?_ ?_ ?_ ?_)
        all_goals first | exact c1_int1 _ _ _ | rfl | (intro u hu; simp at hu; subst hu; rfl) | (unfold maxLen; first | omega | (simp; omega)) | (first | omega | (simp; omega)) | (have := hbw.size; simp at this ⊢; omega) | skip
        intro v1 w1 hown1 hgrow1 _
        have hb1 := below_int hbw hbw.size (Nat.le_refl _) hown hgrow1
        have ho1 : Own w1 w.heap.size v1 (M ++ [x]) := by
          refine own_of hown1 ?_ ?_
          · simp
          · simp [intVals]
        clear hown hgrow1 hown1
        go_wp2_with fail
        go_ret
        exact ⟨_, rfl, by rw [HE.out]; exact ho1, hb1⟩
      · have HE := Lib.hid (HP.out.fin (by have := HN.out; omega))
        go_wp2_with fail
        go_ret
        exact ⟨_, rfl, by rw [HE.out]; exact hown, hbw⟩

theorem own_one (w : World) (x : Int) : Own (w.alloc (.cells #[.int .i64 x] 2)) w.heap.size (.slice (some ⟨w.heap.size, 0, none⟩) 1 1) [x] := World.ownsRow_lit w #[.int .i64 x] 1 (Nat.le_refl _) (by decide) rfl
/-- Special bytes that draws give. -/
def SpD (l : List Int) (m : Nat) : Prop := l.length ≤ m ∧ 125 ∈ l ∧ (∀ z ∈ l, z ∈ [125, 0, 17, 19, 126, 255, 10]) ∧ l.Pairwise (· < ·)
theorem putF_rise (x : Int) : ∀ l : List Int, l.Pairwise (· < ·) → (putF x l).Pairwise (· < ·)
  | [], _ => by simp [putF]
  | y :: l, h => by
    obtain ⟨h1, h2⟩ := List.pairwise_cons.1 h
    rw [putF]
    split
    · rename_i hl
      refine List.pairwise_cons.2 ⟨fun z hz => ?_, putF_rise x l h2⟩
      rcases (putF_mem x l z).1 hz with rfl | hz
      · exact hl
      · exact h1 z hz
    · split
      · exact h
      · refine List.pairwise_cons.2 ⟨fun z hz => ?_, h⟩
        rcases List.mem_cons.1 hz with rfl | hz
        · omega
        · have := h1 z hz; omega
theorem SpD.start : SpD [125] 1 := ⟨by simp, by simp, by simp, by simp⟩
theorem SpD.put {l : List Int} {m : Nat} {x : Int} (h : SpD l m) (hx : x ∈ [(0 : Int), 17, 19, 126, 255, 10]) : SpD (putF x l) (m + 1) := by
  refine ⟨by have := putF_len x l; have := h.1; omega, (putF_mem x l _).2 (.inr h.2.1), fun z hz => ?_, putF_rise x l h.2.2.2⟩
  rcases (putF_mem x l z).1 hz with rfl | hz
  · exact List.mem_cons_of_mem _ hx
  · exact h.2.2.1 z hz
theorem gk_own {w w1 : World} {B k n : Nat} {base : Nat} {vc v : Value} {lc : List Value} {l : List Int} (h : Own w base v l) (hs : Src B vc lc k n w) (hg : w.grownBy w1 (some k)) : Own w1 base v l := by
  obtain ⟨a, z, h1, -⟩ := hs.cells
  exact h.kept hg (Or.inr (Lib.ownBlock_ne h h1 (by decide)))
theorem src_below {B k n : Nat} {vc : Value} {lc : List Value} {w w1 : World} (h : Src B vc lc k n w) (hb : Below w.heap.size w w1) : Src B vc lc k n w1 := h.keep hb

theorem src_app {B k m n : Nat} {vc : Value} {lc xs : List Value} {w w1 : World} {o : Obj} {v : Value} (h : Src B vc lc k m w) (hown : w.ownsRow B 2 1 v n xs) (hg : (w.alloc o).grownBy w1 v.ownBlock) : Src B vc lc k m w1 := by
  obtain ⟨a, z, h1, -⟩ := h.cells
  refine (h.keep ((Below.refl _ _).alloc (Nat.le_refl _) o)).grown hg (fun j hj => ⟨(hown.lt j hj).1, fun e => ?_⟩)
  subst e
  exact Lib.ownBlock_ne hown h1 (by decide) hj
/-- Bytes that draws give, m still to come. -/
def ByD (l : List Int) (m : Nat) : Prop := l.length + m ≤ 300 ∧ ∀ z ∈ l, 0 ≤ z ∧ z ≤ 255
theorem ByD.snoc {l : List Int} {m : Nat} {x : Int} (h : ByD l (m + 1)) (h0 : 0 ≤ x) (h1 : x ≤ 255) : ByD (l ++ [x]) m := by
  refine ⟨by have := h.1; simp; omega, fun z hz => ?_⟩
  rcases List.mem_append.1 hz with hz | hz
  · exact h.2 z hz
  · simp at hz; omega

end Go.Proofs.Ytddlpbpcdjddpaa
