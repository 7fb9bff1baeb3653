/- Both KraftSum. -/
import Derived.Test.YtijmfienaoeboaaCdi
import Derived.Test.YtijmfienaoeboaaMake
import Derived.Test.YtijmfienaoeboaaBk
namespace Go.Proofs.Ytijmfienaoeboaa
open Go Go.RowKit Go.Maps
set_option linter.unusedVariables false

def krN (l : List ByteArray) : Int := if cdOk l then mkN ((kr l : Nat) : Int) 4096 else 0
def krD (l : List ByteArray) : Int := if cdOk l then mkD ((kr l : Nat) : Int) 4096 else 0
theorem kr_take_le (l : List ByteArray) (k : Nat) (h : l.length ≤ 16) : kr (l.take k) ≤ 65536 := by
  have := kr_le (l.take k)
  have h2 : (l.take k).length ≤ 16 := by rw [List.length_take]; omega
  omega
theorem bk_two2 {W : World} {b : Nat} {x y : Value} (h : Bk W b [x, y]) : W.cell? ⟨b, 0, none⟩ = some x ∧ W.cell? ⟨b, 1, none⟩ = some y := ⟨h.c 0 _ rfl, h.c 1 _ rfl⟩

set_option maxHeartbeats 1600000 in
set_option maxRecDepth 100000 in
theorem l05Kraft_any (w : World) (v : Value) (l : List ByteArray) (h : RdS w v l) (hc : cdOk l = true) :
    Calls Try.prog 73 #[v] w fun e w' => e = .returned (.int .i64 ((kr l : Nat) : Int)) ∧ w = w' := by
  obtain ⟨-, h16, -, hcw⟩ := cdOk_parts hc
  have hlen := h.len
  unfold maxLen at hlen
  obtain ⟨A, n, c, rfl, hn, -, -, r⟩ := h
  rw [hn] at hlen h16
  have HN := Lib.hid hn
  have HR := Lib.hid r
  have HM := Lib.hid hcw
  clear hn r hcw hc
  go_enter Try.func73, Try.ntmps73
  go_wp2_with fail
  go_loop [3, 4] (fun m i => ∃ k : Nat, k ≤ n ∧ i = .int .i64 k ∧ m = .int .i64 ((kr (l.take k) : Nat) : Int)) (fun _ i => n - (intOf i).toNat)
  case atStart => exact ⟨0, Nat.zero_le _, rfl, rfl⟩
  case round =>
    obtain ⟨k, hk, rfl, rfl⟩ := hrel
    by_cases hlt : k < n
    · obtain ⟨b, o, rfl, hlt0, hc⟩ := HR.out (by omega)
      have hkl : k < l.length := by have := HN.out; omega
      have hc0 := hc k hkl
      have hs := kr_snoc l k hkl
      have hle := kr_take_le l k (by have := HN.out; omega)
      have hx := cwOk_parts (HM.out l[k] (List.getElem_mem hkl))
      have hk0 : (0 : Int) ≤ (k : Int) := by omega
      have hk1 : (k : Int) < (n : Int) := by omega
      obtain ⟨x1, x2, -⟩ := hx
      have HS := Lib.hid hs
      clear hc hs
      generalize l[k] = x at *
      generalize kr (l.take k) = m0 at *
      rcases (show x.size = 1 ∨ x.size = 2 ∨ x.size = 3 ∨ x.size = 4 ∨ x.size = 5 ∨ x.size = 6 ∨ x.size = 7 ∨ x.size = 8 ∨ x.size = 9 ∨ x.size = 10 ∨ x.size = 11 ∨ x.size = 12 from by omega) with hz | hz | hz | hz | hz | hz | hz | hz | hz | hz | hz | hz
      all_goals clear x1 x2
      all_goals
        go_wp2_with fail
        go_round
        case rel => exact ⟨k + 1, by omega, by go_num, by rw [HS.out, hz]; simp⟩
        case measure => simp [intOf]; omega
    · obtain rfl : k = n := by omega
      have HX : Hid (l.take k = l) := by show _ = _; rw [List.take_of_length_le (by have := HN.out; omega)]
      go_wp2_with fail
      go_ret
      exact ⟨ret_int (by rw [HX.out]), rfl⟩

set_option maxHeartbeats 1600000 in
theorem kraft_spec (w : World) (v : Value) (l : List ByteArray) (h : RdS w v l) (hm : ∀ s ∈ l, s.size ≤ 4000000) :
    Calls Try.prog 22 #[v] w fun e w' => e = .returned (.tuple #[.agg #[.int .i64 (krN l), .int .i64 (krD l)], .bool (cdOk l)]) ∧ Below w.heap.size w w' := by
  have HR2 := Lib.hid (Bk.new w [.int .i64 0, .int .i64 0] 28 w.heap.size rfl)
  have HB2 : Hid (Below w.heap.size w (w.alloc (.cells #[.int .i64 0, .int .i64 0] 28))) := (Below.refl _ _).alloc (Nat.le_refl _) _
  have HH := Lib.hid (h.keep HB2.out)
  have HC := Lib.hid (fun W h => l05Is_any W v l h hm)
  cases hs : cdOk l
  · have e1 : krN l = 0 := by unfold krN; rw [hs]; rfl
    have e2 : krD l = 0 := by unfold krD; rw [hs]; rfl
    rw [e1, e2]
    rw [hs] at HC
    clear e1 e2 hs h hm
    go_enter Try.func22, Try.ntmps22
    go_wp2_with fail
    refine (HC.out _ HH.out).mono ?_; rintro e w1 ⟨rfl, q, rfl⟩
    have HR3 := Lib.hid (HR2.out.drewN q)
    have HB3 := Lib.hid (below_drewN HB2.out q)
    obtain ⟨r0, r1⟩ := bk_two2 HR3.out
    have f0 := HR3.out.f 0 (by decide)
    have f1 := HR3.out.f 1 (by decide)
    go_wp2_with fail
    simp [bodyPost, results, Try.results22, go_sem, r0, r1]
    first | exact (HB3.out.setCell (Nat.le_refl _) _).setCell (Nat.le_refl _) _ | exact HB3.out
  · have e1 : krN l = mkN ((kr l : Nat) : Int) 4096 := by unfold krN; rw [hs]; rfl
    have e2 : krD l = mkD ((kr l : Nat) : Int) 4096 := by unfold krD; rw [hs]; rfl
    rw [e1, e2]
    have HK := Lib.hid (fun W h => l05Kraft_any W v l h hs)
    have hb : kr l ≤ 65536 := by have := kr_take_le l l.length (cdOk_parts hs).2.1; rwa [List.take_length] at this
    rw [hs] at HC
    clear e1 e2 hs h hm
    generalize kr l = z at *
    go_enter Try.func22, Try.ntmps22
    go_wp2_with fail
    refine (HC.out _ HH.out).mono ?_; rintro e w1 ⟨rfl, q, rfl⟩
    have HR3 := Lib.hid (HR2.out.drewN q)
    have HB3 := Lib.hid (below_drewN HB2.out q)
    have HH3 := Lib.hid (HH.out.drewN q)
    clear HR2 HB2 HH
    go_wp2_with fail
    refine (HK.out _ HH3.out).mono ?_; rintro e w2 ⟨rfl, rfl⟩
    go_wp2_with fail
    refine (l01FMake_any (z : Int) 4096 _ (by decide) (by omega) (by omega) (by decide) (by decide)).mono ?_; rintro e w2 ⟨rfl, hb2⟩
    have HR4 := Lib.hid (HR3.out.keep hb2)
    have HB4 := Lib.hid (HB3.out.trans (hb2.mono HB3.out.size))
    clear hb2
    obtain ⟨r0, r1⟩ := bk_two2 HR4.out
    have f0 := HR4.out.f 0 (by decide)
    have f1 := HR4.out.f 1 (by decide)
    go_wp2_with fail
    simp [bodyPost, results, Try.results22, go_sem, r0, r1]
    exact (HB4.out.setCell (Nat.le_refl _) _).setCell (Nat.le_refl _) _

set_option maxHeartbeats 1600000 in
set_option maxRecDepth 100000 in
theorem kraft_impl (w : World) (v : Value) (l : List ByteArray) (h : RdS w v l) (hm : ∀ s ∈ l, s.size ≤ 4000000) :
    Calls Try.prog 23 #[v] w fun e w' => e = .returned (.tuple #[.agg #[.int .i64 (krN l), .int .i64 (krD l)], .bool (cdOk l)]) ∧ Below w.heap.size w w' := by
  have HR2 := Lib.hid (Bk.new w [.int .i64 0, .int .i64 0] 28 w.heap.size rfl)
  have HB2 : Hid (Below w.heap.size w (w.alloc (.cells #[.int .i64 0, .int .i64 0] 28))) := (Below.refl _ _).alloc (Nat.le_refl _) _
  have HH := Lib.hid (h.keep HB2.out)
  have HC := Lib.hid (fun W h => isCode_impl W v l h hm)
  cases hs : cdOk l
  · have e1 : krN l = 0 := by unfold krN; rw [hs]; rfl
    have e2 : krD l = 0 := by unfold krD; rw [hs]; rfl
    rw [e1, e2]
    rw [hs] at HC
    clear e1 e2 hs h hm
    go_enter Try.func23, Try.ntmps23
    go_wp2_with fail
    refine (HC.out _ HH.out).mono ?_; rintro e w1 ⟨rfl, hb1⟩
    have HR3 := Lib.hid (HR2.out.keep hb1)
    have HB3 := Lib.hid (HB2.out.trans (hb1.mono HB2.out.size))
    clear hb1
    obtain ⟨r0, r1⟩ := bk_two2 HR3.out
    have f0 := HR3.out.f 0 (by decide)
    have f1 := HR3.out.f 1 (by decide)
    go_wp2_with fail
    simp [bodyPost, results, Try.results23, go_sem, r0, r1]
    first | exact (HB3.out.setCell (Nat.le_refl _) _).setCell (Nat.le_refl _) _ | exact HB3.out
  · have e1 : krN l = mkN ((kr l : Nat) : Int) 4096 := by unfold krN; rw [hs]; rfl
    have e2 : krD l = mkD ((kr l : Nat) : Int) 4096 := by unfold krD; rw [hs]; rfl
    rw [e1, e2]
    obtain ⟨-, h16, -, hcw⟩ := cdOk_parts hs
    have hlen := h.len
    unfold maxLen at hlen
    obtain ⟨A, n, c, rfl, hn, -, -, r⟩ := h
    rw [hn] at hlen h16
    have HN := Lib.hid hn
    have HR := Lib.hid r
    have HM := Lib.hid hcw
    rw [hs] at HC
    clear e1 e2 hs hm hn r hcw
    go_enter Try.func23, Try.ntmps23
    go_wp2_with fail
    refine (HC.out _ HH.out).mono ?_; rintro e w1 ⟨rfl, hb1⟩
    have HR3 := Lib.hid (HR2.out.keep hb1)
    have HB3 := Lib.hid (HB2.out.trans (hb1.mono HB2.out.size))
    clear hb1 HR2 HB2 HH
    go_wp2_with fail
    go_loop [4, 13] (fun m i => ∃ k : Nat, k ≤ n ∧ i = .int .i64 k ∧ m = .int .i64 ((kr (l.take k) : Nat) : Int)) (fun _ i => n - (intOf i).toNat)
    case atStart => exact ⟨0, Nat.zero_le _, rfl, rfl⟩
    case round =>
      obtain ⟨k, hk, rfl, rfl⟩ := hrel
      by_cases hlt : k < n
      · obtain ⟨b, o, rfl, hlt0, hc⟩ := HR.out (by omega)
        have hkl : k < l.length := by have := HN.out; omega
        have hc0 := (HB3.out.cell (p := ⟨b, o + k, none⟩) hlt0).trans (hc k hkl)
        have hs := kr_snoc l k hkl
        have hle := kr_take_le l k (by have := HN.out; omega)
        have hx := cwOk_parts (HM.out l[k] (List.getElem_mem hkl))
        have hk0 : (0 : Int) ≤ (k : Int) := by omega
        have hk1 : (k : Int) < (n : Int) := by omega
        obtain ⟨x1, x2, -⟩ := hx
        have HS := Lib.hid hs
        clear hc hs
        generalize l[k] = x at *
        generalize kr (l.take k) = m0 at *
        rcases (show x.size = 1 ∨ x.size = 2 ∨ x.size = 3 ∨ x.size = 4 ∨ x.size = 5 ∨ x.size = 6 ∨ x.size = 7 ∨ x.size = 8 ∨ x.size = 9 ∨ x.size = 10 ∨ x.size = 11 ∨ x.size = 12 from by omega) with hz | hz | hz | hz | hz | hz | hz | hz | hz | hz | hz | hz
        all_goals clear x1 x2
        all_goals
          go_wp2_with fail
          go_round
          case rel => exact ⟨k + 1, by omega, by go_num, by rw [HS.out, hz]; simp⟩
          case measure => simp [intOf]; omega
      · obtain rfl : k = n := by omega
        have hX : l.take k = l := by rw [List.take_of_length_le (by have := HN.out; omega)]
        have hb : kr l ≤ 65536 := by have := kr_take_le l l.length (by have := HN.out; omega); rwa [List.take_length] at this
        rw [hX]
        clear hX
        obtain ⟨z, hz⟩ : ∃ z, kr l = z := ⟨_, rfl⟩
        have HZ := Lib.hid hz
        rw [hz] at hb ⊢
        clear hz
        go_wp2_with fail
        refine (make_yes_impl (z : Int) 4096 _ (by decide) (by omega) (by omega) (by decide) (by decide)).mono ?_; rintro e w2 ⟨rfl, hb2⟩
        have HR4 := Lib.hid (HR3.out.keep hb2)
        have HB4 := Lib.hid (HB3.out.trans (hb2.mono HB3.out.size))
        clear hb2
        obtain ⟨r0, r1⟩ := bk_two2 HR4.out
        have f0 := HR4.out.f 0 (by decide)
        have f1 := HR4.out.f 1 (by decide)
        go_wp2_with fail
        simp [bodyPost, results, Try.results23, go_sem, r0, r1]
        exact ⟨⟨by rw [HZ.out], by rw [HZ.out]⟩, (HB4.out.setCell (p := ⟨w.heap.size, 0, none⟩) (Nat.le_refl _) _).setCell (p := ⟨w.heap.size, 1, none⟩) (Nat.le_refl _) _⟩
end Go.Proofs.Ytijmfienaoeboaa
