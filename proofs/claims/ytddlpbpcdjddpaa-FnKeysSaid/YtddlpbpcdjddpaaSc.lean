/- The law's own functions on scramblers: szScrambler, toScrambler, eqScrambler. -/
import Derived.Test.YtddlpbpcdjddpaaRd
import Derived.Test.YtddlpbpcdjddpaaBk
import Derived.Test.YtddlpbpcdjddpaaScP
import Derived.Below
namespace Go.Proofs.Ytddlpbpcdjddpaa
open Go Go.RowKit
set_option linter.unusedVariables false

theorem bk_2 {W : World} {k : Nat} {x y : Value} (h : Bk W k [x, y]) : W.cell? ⟨k, 0, none⟩ = some x ∧ W.cell? ⟨k, 1, none⟩ = some y := ⟨h.c 0 _ rfl, h.c 1 _ rfl⟩
theorem rd_shp {w : World} {v : Value} {l : List Int} (h : Rd w v l) : ∃ A c, v = .slice A l.length c := by
  obtain ⟨A, n, c, e, hn, -⟩ := h
  exact ⟨A, c, by rw [hn]; exact e⟩
theorem own_shp {w : World} {base : Nat} {v : Value} {l : List Int} (h : Own w base v l) : ∃ A c, v = .slice A l.length c := own_shape h
theorem Own.setFar {w : World} {base : Nat} {v : Value} {l : List Int} (h : Own w base v l) {a : Addr} (ha : a.block < base) (x : Value) : Own (w.setCell a x) base v l := ownsRow_setCell_below h ha x
/-- The cells of a scrambler. -/
def scV (v : Value) (s : ByteArray) : List Value := [v, .string s]

set_option maxRecDepth 100000 in
theorem szI_any (w : World) (v : Value) (l : List Int) (left : Int) (h : Rd w v l) (h0 : 0 ≤ left) (h1 : left ≤ 4000000000) :
    Calls Try.prog 36 #[v, .int .i64 left] w fun e w' => e = .returned (.int .i64 (if left - l.length < 0 then -1 else left - l.length)) ∧ w = w' := by
  have hlen := h.len
  unfold maxLen at hlen
  obtain ⟨A, n, c, rfl, hn, -, -, -⟩ := h
  rw [hn] at hlen ⊢
  clear hn
  have t1 : IntKind.i64.wrap (left - (n : Int)) = left - (n : Int) := IntWalk.i64_in _ (by omega)
  by_cases hs : left - (n : Int) < 0
  · rw [if_pos hs]
    go_enter Try.func36, Try.ntmps36
    go_wp2
    go_ret
    exact ⟨rfl, rfl⟩
  · rw [if_neg hs]
    go_enter Try.func36, Try.ntmps36
    go_wp2
    go_ret
    exact ⟨rfl, rfl⟩

set_option maxRecDepth 100000 in
theorem szScrambler_any (w : World) (v : Value) (l : List Int) (s : ByteArray) (h : Rd w v l) (hs : s.size ≤ maxLen) :
    Calls Try.prog 10 #[.agg #[v, .string s], .int .i64 1048576] w fun e w' => e = .returned (.int .i64 (szSc l.length s.size)) ∧ Below w.heap.size w w' := by
  obtain ⟨A1, c1, e1⟩ := rd_shp h
  have hlen := h.len
  unfold maxLen at hlen hs
  have HB : Hid (Below w.heap.size w (w.alloc (.cells #[v, .string s] 24))) := (Below.refl _ _).alloc (Nat.le_refl _) _
  have HR := Lib.hid (fun W h => szI_any W v l 1048576 h (by omega) (by omega))
  have HM := Lib.hid (h.keep HB.out)
  have hz : szSc l.length s.size = if 1048576 - (l.length : Int) < 0 then -1 else if 1048576 - (l.length : Int) - (s.size : Int) < 0 then -1 else 1048576 - (l.length : Int) - (s.size : Int) := rfl
  clear h
  generalize szSc l.length s.size = R at *
  generalize l.length = n at *
  obtain ⟨k, hk⟩ : ∃ k, k = s.size := ⟨_, rfl⟩
  have HK := Lib.hid hk
  rw [← hk] at hz hs
  have t1 : IntKind.i64.wrap (1048576 - (n : Int)) = 1048576 - (n : Int) := IntWalk.i64_in _ (by omega)
  subst e1
  by_cases h1 : 1048576 - (n : Int) < 0
  · rw [if_pos h1] at hz HR
    have HZ := Lib.hid hz
    clear hz h1 t1 hk
    go_enter Try.func10, Try.ntmps10
    go_wp2_with fail
    refine (HR.out _ HM.out).mono ?_; rintro e w' ⟨rfl, rfl⟩
    go_wp2_with fail
    go_ret
    exact ⟨ret_int (by rw [HZ.out]), HB.out⟩
  · rw [if_neg h1] at hz HR
    have h0 : ¬ (1048576 - (n : Int)) < 0 := h1
    have t2 : IntKind.i64.wrap (1048576 - (n : Int) - (s.size : Int)) = 1048576 - (n : Int) - (s.size : Int) := IntWalk.i64_in _ (by omega)
    by_cases h2 : 1048576 - (n : Int) - (k : Int) < 0
    · rw [if_pos h2] at hz
      have HZ := Lib.hid hz
      rw [hk] at h2
      clear hz h1 t1 hk
      generalize 1048576 - (n : Int) = m at *
      go_enter Try.func10, Try.ntmps10
      go_wp2_with fail
      refine (HR.out _ HM.out).mono ?_; rintro e w' ⟨rfl, rfl⟩
      go_wp2_with fail
      go_ret
      exact ⟨ret_int (by rw [HZ.out]), HB.out⟩
    · rw [if_neg h2] at hz
      have HZ := Lib.hid hz
      rw [hk] at h2
      clear hz h1 t1 hk
      generalize 1048576 - (n : Int) = m at *
      go_enter Try.func10, Try.ntmps10
      go_wp2_with fail
      refine (HR.out _ HM.out).mono ?_; rintro e w' ⟨rfl, rfl⟩
      go_wp2_with fail
      go_ret
      exact ⟨ret_int (by rw [HZ.out, HK.out]), HB.out⟩

set_option maxRecDepth 100000 in
theorem eqScrambler_rd (w : World) (v u : Value) (l : List Int) (s : ByteArray) (h1 : Rd w v l) (h2 : Rd w u l) :
    Calls Try.prog 14 #[.agg #[v, .string s], .agg #[u, .string s]] w fun e w' => e = .returned (.bool true) ∧ Below w.heap.size w w' := by
  obtain ⟨A1, c1, e1⟩ := rd_shp h1
  obtain ⟨A2, c2, e2⟩ := rd_shp h2
  have hB0 : Below w.heap.size w ((w.alloc (.cells #[v, .string s] 28)).alloc (.cells #[u, .string s] 28)) := ((Below.refl _ _).alloc (Nat.le_refl _) _).alloc (by simp) _
  have b1 := (Bk.new w (scV v s) 28 w.heap.size rfl).alloc (.cells #[u, .string s] 28)
  have b2 := Bk.new (w.alloc (.cells #[v, .string s] 28)) (scV u s) 28 (w.heap.size + 1) (by simp)
  have HC := Lib.hid (fun W h1 h2 => eqInt64S_rd W v u l h1 h2)
  generalize l.length = n1 at e1 e2
  subst e1 e2
  have HB := Lib.hid hB0
  have H1 := Lib.hid (h1.keep HB.out)
  have H2 := Lib.hid (h2.keep HB.out)
  have B1 := Lib.hid b1
  have B2 := Lib.hid b2
  clear h1 h2 b1 b2 hB0
  go_enter Try.func14, Try.ntmps14
  go_wp2_with fail
  refine (HC.out _ H1.out H2.out).mono ?_; rintro e w1 ⟨rfl, q1, rfl⟩
  have p1 := bk_2 (B1.out.drewN q1)
  have p2 := bk_2 (B2.out.drewN q1)
  obtain ⟨p10, p11⟩ := p1
  obtain ⟨p20, p21⟩ := p2
  go_wp2_with fail
  go_ret
  exact ⟨rfl, below_drewN HB.out q1⟩

set_option maxRecDepth 100000 in
theorem toScrambler_own (w : World) (v : Value) (l : List Int) (s : ByteArray) (h : Rd w v l) (hl : l.length ≤ 4000000) :
    Calls Try.prog 12 #[.agg #[v, .string s]] w fun e w' => ∃ u, e = .returned (.agg #[u, .string s]) ∧ Own w' w.heap.size u l ∧ Below w.heap.size w w' := by
  obtain ⟨A1, c1, e1⟩ := rd_shp h
  obtain ⟨W3, hW3⟩ : ∃ W3, W3 = (((w.alloc (.cells #[v, .string s] 24)).alloc (.cells #[.slice none 0 0, .string ⟨#[]⟩] 28)).alloc (.cells #[.slice none 0 0, .string ⟨#[]⟩] 28)) := ⟨_, rfl⟩
  have hbw : Below w.heap.size w W3 := by rw [hW3]; exact (((Below.refl _ _).alloc (Nat.le_refl _) _).alloc (by simp) _).alloc (by simp; omega) _
  have ba : Bk W3 w.heap.size (scV v s) := by rw [hW3]; exact ((Bk.new w (scV v s) _ _ rfl).alloc _).alloc _
  have br : Bk W3 (w.heap.size + 1) (scV (.slice none 0 0) ⟨#[]⟩) := by rw [hW3]; exact (Bk.new _ (scV (.slice none 0 0) ⟨#[]⟩) _ _ (by simp)).alloc _
  have bo : Bk W3 (w.heap.size + 1 + 1) (scV (.slice none 0 0) ⟨#[]⟩) := by rw [hW3]; exact Bk.new _ (scV (.slice none 0 0) ⟨#[]⟩) _ _ (by simp)
  have hz3 : W3.heap.size = w.heap.size + 1 + 1 + 1 := by rw [hW3]; simp
  have HC := Lib.hid (fun W h => toInt64S_any W v l h hl)
  generalize l.length = n1 at e1
  subst e1
  have HB := Lib.hid hbw
  have BA := Lib.hid ba
  have BR := Lib.hid br
  have BO := Lib.hid bo
  have HM := Lib.hid (h.keep hbw)
  have HW := Lib.hid hW3
  have HZ := Lib.hid hz3
  clear h hbw ba br bo hW3 hz3 hl
  go_enter Try.func12, Try.ntmps12
  go_wp2_with fail
  rw [← HW.out]
  refine (HC.out W3 HM.out).mono ?_; rintro e w1 ⟨u1, rfl, ho1, hb1⟩
  obtain ⟨A3, c3, rfl⟩ := own_shp ho1
  have HB1 := Lib.hid (HB.out.trans (hb1.mono HB.out.size))
  have BA1 := Lib.hid (BA.out.keep hb1)
  have BR1 := Lib.hid (BR.out.keep hb1)
  have BO1 := Lib.hid (BO.out.keep hb1)
  have HO1 := Lib.hid ho1
  clear ho1 hb1 BA BR BO HB HM HC
  generalize l.length = k1 at *
  have hlo : w.heap.size + 1 + 1 < W3.heap.size := by have := HZ.out; omega
  have HLO := Lib.hid hlo
  clear hlo
  have p1 := BA1.out.c 1 _ rfl
  have p2 := BO1.out.c 0 _ rfl
  have p20 := BO1.out.c 1 _ rfl
  have p3 := BO1.out.f 0 (by show 0 < 2; omega)
  have p4 := BO1.out.f 1 (by show 1 < 2; omega)
  have r0 := BR1.out.c 0 _ rfl
  have r1 := BR1.out.c 1 _ rfl
  have g0 := BR1.out.f 0 (by show 0 < 2; omega)
  have g1 := BR1.out.f 1 (by show 1 < 2; omega)
  go_wp2_with fail
  refine bodyPost_ret (v := .agg #[.slice A3 k1 c3, .string s]) (by simp [results, Try.results12, go_sem, r0, r1]) rfl ⟨_, rfl, Own.base (base := W3.heap.size) (base' := w.heap.size) ?_ (by have := HLO.out; omega), ?_⟩
  · have hlo := HLO.out
    exact ((((HO1.out.setFar (a := ⟨w.heap.size + 1 + 1, 0, none⟩) hlo _).setFar (a := ⟨w.heap.size + 1 + 1, 1, none⟩) hlo _).setFar (a := ⟨w.heap.size + 1, 0, none⟩) (by show w.heap.size + 1 < _; omega) _).setFar (a := ⟨w.heap.size + 1, 1, none⟩) (by show w.heap.size + 1 < _; omega) _)
  · exact ((((HB1.out.setCell (p := ⟨w.heap.size + 1 + 1, 0, none⟩) (by show w.heap.size ≤ w.heap.size + 1 + 1; omega) _).setCell (p := ⟨w.heap.size + 1 + 1, 1, none⟩) (by show w.heap.size ≤ w.heap.size + 1 + 1; omega) _).setCell (p := ⟨w.heap.size + 1, 0, none⟩) (by show w.heap.size ≤ w.heap.size + 1; omega) _).setCell (p := ⟨w.heap.size + 1, 1, none⟩) (by show w.heap.size ≤ w.heap.size + 1; omega) _)
theorem toScrambler_any (w : World) (v : Value) (l : List Int) (s : ByteArray) (h : Rd w v l) (hl : l.length ≤ 4000000) :
    Calls Try.prog 12 #[.agg #[v, .string s]] w fun e w' => ∃ u, e = .returned (.agg #[u, .string s]) ∧ Rd w' u l ∧ Below w.heap.size w w' :=
  (toScrambler_own w v l s h hl).mono fun e w' ⟨u, he, h1, h5⟩ => ⟨u, he, h1.rd, h5⟩
end Go.Proofs.Ytddlpbpcdjddpaa
