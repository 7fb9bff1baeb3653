/- The contract of the program's book. -/
import Derived.Test.YtjmaapbodacggaaDeR
namespace Go.Proofs.Ytjmaapbodacggaa
open Go Go.RowKit Go.Maps
set_option linter.unusedVariables false

theorem far2 {W : World} {b : Nat} {cs : List Value} (h : Bk W b cs) (i : Nat) (x : Value) : Bk (W.setCell ⟨b + 1 + 1, i, none⟩ x) b cs := h.far _ (by show b + 1 + 1 ≠ b; omega) x
theorem far1 {W : World} {b : Nat} {cs : List Value} (h : Bk W (b + 1) cs) (i : Nat) (x : Value) : Bk (W.setCell ⟨b + 1 + 1, i, none⟩ x) (b + 1) cs := h.far _ (by show b + 1 + 1 ≠ b + 1; omega) x
theorem OwnM.set {w : World} {b n : Nat} {l : List ByteArray} (h : OwnM w b n l) {a : Addr} (ha : b ≠ a.block) (x : Value) : OwnM (w.setCell a x) b n l := World.ownsMap.setCell h ha x

set_option maxHeartbeats 1600000 in
set_option maxRecDepth 100000 in
theorem book_any (w : World) (d wd : Int) (vm vp : Value) (m p : List ByteArray) (hm : RdS w vm m) (hp : RdS w vp p) (sm : ∀ s ∈ m, s.size ≤ 4000000) (sp : ∀ s ∈ p, s.size ≤ 4000000) (lm : m.length ≤ 4000000) (lp : p.length ≤ 4000000) :
    Calls Try.prog 119 #[.agg #[.int .i64 d, .int .i64 wd, vm, vp]] w fun e w' => ∃ b1 b2, e = .returned (.agg #[.map (some b1), .map (some b2)]) ∧ OwnM w' b1 m.length m ∧ OwnM w' b2 p.length p ∧ Below w.heap.size w w' := by
  obtain ⟨A1, k1, e1⟩ := rds_sh hm
  obtain ⟨A2, k2, e2⟩ := rds_sh hp
  generalize hn1 : m.length = n1 at *
  generalize hn2 : p.length = n2 at *
  subst e1 e2
  obtain ⟨W3, hW3⟩ : ∃ W3, W3 = ((w.alloc (.cells #[.int .i64 d, .int .i64 wd, .slice A1 n1 k1, .slice A2 n2 k2] 36)).alloc (.cells #[.map none, .map none] 133)).alloc (.cells #[.map none, .map none] 133) := ⟨_, rfl⟩
  have hbw : Below w.heap.size w W3 := by rw [hW3]; exact (((Below.refl _ _).alloc (Nat.le_refl _) _).alloc (by simp) _).alloc (by simp; omega) _
  have ba : Bk W3 w.heap.size (bcV d wd (.slice A1 n1 k1) (.slice A2 n2 k2)) := by rw [hW3]; exact ((Bk.new w (bcV d wd (.slice A1 n1 k1) (.slice A2 n2 k2)) _ _ rfl).alloc _).alloc _
  have br : Bk W3 (w.heap.size + 1) [.map none, .map none] := by rw [hW3]; exact (Bk.new _ [.map none, .map none] _ _ (by simp)).alloc _
  have bo : Bk W3 (w.heap.size + 1 + 1) [.map none, .map none] := by rw [hW3]; exact Bk.new _ [.map none, .map none] _ _ (by simp)
  have hz3 : W3.heap.size = w.heap.size + 1 + 1 + 1 := by rw [hW3]; simp
  have HB0 := Lib.hid hbw
  have BA0 := Lib.hid ba
  have BR0 := Lib.hid br
  have BO0 := Lib.hid bo
  have HM := Lib.hid hm
  have HP := Lib.hid hp
  have HW := Lib.hid hW3
  have HZ0 : Hid (w.heap.size + 1 + 1 < W3.heap.size) := by show _ < _; omega
  have CDM := Lib.hid (fun W h => dataOf_any W (.slice A1 n1 k1) m h sm (by rw [hn1]; exact lm))
  have CDP := Lib.hid (fun W h => dataOf_any W (.slice A2 n2 k2) p h sp (by rw [hn2]; exact lp))
  rw [hn1] at CDM
  rw [hn2] at CDP
  have i0 : ∀ W, (Instr.index 153 (.agg #[.int .i64 (-1), .int .i64 1]) (.int .i64 0)).run Try.prog W = .ok (.int .i64 (-1)) W := fun _ => by kernel_rfl
  have i1 : ∀ W, (Instr.index 153 (.agg #[.int .i64 (-1), .int .i64 1]) (.int .i64 1)).run Try.prog W = .ok (.int .i64 1) W := fun _ => by kernel_rfl
  clear hm hp hbw ba br bo hW3 hz3 sm sp hn1 hn2
  go_enter Try.func119, Try.ntmps119
  go_wp2_with fail
  rw [← HW.out]
  refine (lineStates_any _).mono ?_; rintro e w2 ⟨rfl, hb2⟩
  have HB2 := Lib.hid (HB0.out.trans (hb2.mono HB0.out.size))
  have BA2 := Lib.hid (BA0.out.keep hb2)
  have BR2 := Lib.hid (BR0.out.keep hb2)
  have BO2 := Lib.hid (BO0.out.keep hb2)
  have HZ2 : Hid (w.heap.size + 1 + 1 < w2.heap.size) := by show _ < _; have := hb2.size; have := HZ0.out; omega
  clear hb2 HB0 BA0 BR0 BO0 HW HZ0
  go_wp2_with fail
  go_loopw [7] (fun i wr => ∃ (k : Nat) (a1 a2 : Value), k ≤ 2 ∧ i = .int .i64 k ∧ Below w.heap.size w wr ∧ Bk wr w.heap.size (bcV d wd (.slice A1 n1 k1) (.slice A2 n2 k2)) ∧ Bk wr (w.heap.size + 1) [.map none, .map none] ∧ Bk wr (w.heap.size + 1 + 1) [a1, a2] ∧ w.heap.size + 1 + 1 < wr.heap.size ∧ (k = 0 → a1 = .map none ∧ a2 = .map none) ∧ (k = 1 → a2 = .map none) ∧ (1 ≤ k → ∃ b1, a1 = .map (some b1) ∧ OwnM wr b1 n1 m) ∧ (2 ≤ k → ∃ b2, a2 = .map (some b2) ∧ OwnM wr b2 n2 p)) (fun i _ => 2 - (intOf i).toNat)
  case atStart => exact ⟨0, _, _, by omega, rfl, HB2.out, BA2.out, BR2.out, BO2.out, HZ2.out, fun _ => ⟨rfl, rfl⟩, fun h => by omega, fun h => by omega, fun h => by omega⟩
  case round =>
    obtain ⟨k, a1, a2, hk, rfl, hb, hba, hbr, hbo, hz, f1, f2, f3, f4⟩ := hrel
    have HB := Lib.hid hb
    have BK := Lib.hid hba
    have BR := Lib.hid hbr
    have BO := Lib.hid hbo
    have HZ := Lib.hid hz
    clear hb hba hbr hbo hz HB2 BA2 BR2 BO2 HZ2
    have hk3 : k = 0 ∨ k = 1 ∨ k = 2 := by omega
    rcases hk3 with rfl | rfl | rfl
    · obtain ⟨rfl, rfl⟩ := f1 rfl
      clear f1 f2 f3 f4 i1 CDP
      have CD := CDM
      clear CDM
      go_wp2_with fail
      have t0 := BK.out.drew
      have o0 := BO.out.drew
      have R6 := Lib.hid (BR.out.drew)
      have B6 := Lib.hid (HB.out.drew)
      have Z6 := Lib.hid HZ.out
      obtain ⟨q0, q1, q2, q3⟩ := bk_all t0
      have f0 := o0.f 0 (by show _ < 2; omega)
      have g0 := o0.c 0 _ rfl
      go_region_held3 (fun w' => w'.cell? ⟨w.heap.size, 0, none⟩ = some (.int .i64 d) ∧ w'.cell? ⟨w.heap.size, 1, none⟩ = some (.int .i64 wd) ∧ w'.cell? ⟨w.heap.size, 2, none⟩ = some (.slice A1 n1 k1) ∧ w'.cell? ⟨w.heap.size, 3, none⟩ = some (.slice A2 n2 k2)) ((first | with_reducible exact bk_all (far2 t8 _ _) | with_reducible exact bk_all t8 | with_reducible exact bk_all t7 | with_reducible exact bk_all t0 | fail))
        (first
          | (go_at_call 140; refine (index_minus _).mono ?_; rintro e w' ⟨rfl, rfl⟩)
          | (go_at_call 116; refine (words_minus _ _ _ _ _ _ _ _ _).mono ?_; rintro e u7 ⟨rfl, hb7⟩; have t7 := Bk.keep t0 hb7; have o7 := Bk.keep o0 hb7; have R7 := Lib.hid (R6.out.keep hb7); have B7 := Lib.hid (B6.out.trans (hb7.mono B6.out.size)); obtain ⟨q0, q1, q2, q3⟩ := bk_all t7; have f0 := o7.f 0 (by show _ < 2; omega); have g0 := o7.c 0 _ rfl; clear hb7)
          | (go_at_call 138; refine (CD.out _ (HM.out.keep B7.out)).mono ?_; rintro e u8 ⟨rfl, ho8, hb8⟩; have t8 := Bk.keep t7 hb8; have o8 := Bk.keep o7 hb8; have R8 := Lib.hid (R7.out.keep hb8); have B8 := Lib.hid (B7.out.trans (hb8.mono B7.out.size)); have N8 := Lib.hid ho8; obtain ⟨q0, q1, q2, q3⟩ := bk_all t8; have f0 := o8.f 0 (by show _ < 2; omega); have g0 := o8.c 0 _ rfl; clear hb8 ho8)
          | fail)
      all_goals go_wp2_with fail
      all_goals go_roundw
      case rel =>
        have hz7 := o7.2.2
        exact ⟨1, .map (some u7.heap.size), .map none, by omega, rfl, B8.out.setCell (p := ⟨w.heap.size + 1 + 1, 0, none⟩) (by show w.heap.size ≤ w.heap.size + 1 + 1; omega) _, far2 t8 _ _, far1 R8.out _ _, o8.set 0 (by show _ < 2; omega) _, by have := o8.2.2; simpa [World.setCell] using this, fun h => by omega, fun _ => rfl, fun _ => ⟨_, rfl, OwnM.set N8.out (by show _ ≠ w.heap.size + 1 + 1; omega) _⟩, fun h => by omega⟩
      case measure => simp [intOf]
    · obtain ⟨c1, rfl, hm1⟩ := f3 (by omega)
      have ha2 := f2 rfl
      subst ha2
      have HM1 := Lib.hid hm1
      clear f1 f2 f3 f4 i0 CDM hm1
      have CD := CDP
      clear CDP
      go_wp2_with fail
      have t0 := BK.out.drew
      have o0 := BO.out.drew
      have R6 := Lib.hid (BR.out.drew)
      have B6 := Lib.hid (HB.out.drew)
      have Z6 := Lib.hid HZ.out
      have M6 := Lib.hid (OwnM.keep HM1.out (Below.refl _ _).drew)
      obtain ⟨q0, q1, q2, q3⟩ := bk_all t0
      have f0 := o0.f 1 (by show _ < 2; omega)
      have g0 := o0.c 1 _ rfl
      go_region_held3 (fun w' => w'.cell? ⟨w.heap.size, 0, none⟩ = some (.int .i64 d) ∧ w'.cell? ⟨w.heap.size, 1, none⟩ = some (.int .i64 wd) ∧ w'.cell? ⟨w.heap.size, 2, none⟩ = some (.slice A1 n1 k1) ∧ w'.cell? ⟨w.heap.size, 3, none⟩ = some (.slice A2 n2 k2)) ((first | with_reducible exact bk_all (far2 t8 _ _) | with_reducible exact bk_all t8 | with_reducible exact bk_all t7 | with_reducible exact bk_all t0 | fail))
        (first
          | (go_at_call 140; refine (index_plus _).mono ?_; rintro e w' ⟨rfl, rfl⟩)
          | (go_at_call 116; refine (words_plus _ _ _ _ _ _ _ _ _).mono ?_; rintro e u7 ⟨rfl, hb7⟩; have t7 := Bk.keep t0 hb7; have o7 := Bk.keep o0 hb7; have R7 := Lib.hid (R6.out.keep hb7); have B7 := Lib.hid (B6.out.trans (hb7.mono B6.out.size)); have M7 := Lib.hid (OwnM.keep M6.out hb7); obtain ⟨q0, q1, q2, q3⟩ := bk_all t7; have f0 := o7.f 1 (by show _ < 2; omega); have g0 := o7.c 1 _ rfl; clear hb7)
          | (go_at_call 138; refine (CD.out _ (HP.out.keep B7.out)).mono ?_; rintro e u8 ⟨rfl, ho8, hb8⟩; have t8 := Bk.keep t7 hb8; have o8 := Bk.keep o7 hb8; have R8 := Lib.hid (R7.out.keep hb8); have B8 := Lib.hid (B7.out.trans (hb8.mono B7.out.size)); have N8 := Lib.hid ho8; have M8 := Lib.hid (OwnM.keep M7.out hb8); obtain ⟨q0, q1, q2, q3⟩ := bk_all t8; have f0 := o8.f 1 (by show _ < 2; omega); have g0 := o8.c 1 _ rfl; clear hb8 ho8)
          | fail)
      all_goals go_wp2_with fail
      all_goals go_roundw
      case rel =>
        have hz7 := o7.2.2
        have hc1 : c1 ≠ w.heap.size + 1 + 1 := by
          intro e
          have := o8.c 0 _ rfl
          obtain ⟨es, clock, he, -⟩ := M8.out
          subst e
          simp [World.cell?, he] at this
        exact ⟨2, .map (some c1), .map (some u7.heap.size), by omega, rfl, B8.out.setCell (p := ⟨w.heap.size + 1 + 1, 1, none⟩) (by show w.heap.size ≤ w.heap.size + 1 + 1; omega) _, far2 t8 _ _, far1 R8.out _ _, o8.set 1 (by show _ < 2; omega) _, by have := o8.2.2; simpa [World.setCell] using this, fun h => by omega, fun h => by omega, fun _ => ⟨_, rfl, OwnM.set M8.out hc1 _⟩, fun _ => ⟨_, rfl, OwnM.set N8.out (by show _ ≠ w.heap.size + 1 + 1; omega) _⟩⟩
      case measure => simp [intOf]
    · obtain ⟨c1, rfl, hm1⟩ := f3 (by omega)
      obtain ⟨c2, rfl, hm2⟩ := f4 (by omega)
      have HM1 := Lib.hid hm1
      have HM2 := Lib.hid hm2
      clear f1 f2 f3 f4 i0 i1 CDM CDP hm1 hm2
      have p0 := BO.out.c 0 _ rfl
      have p1 := BO.out.c 1 _ rfl
      have r0 := BR.out.c 0 _ rfl
      have r1 := BR.out.c 1 _ rfl
      have g0 := BR.out.f 0 (by show _ < 2; omega)
      have g1 := BR.out.f 1 (by show _ < 2; omega)
      have hne : ∀ c n l, OwnM wr c n l → c ≠ w.heap.size + 1 := by
        rintro c n l ⟨es, clock, he, -⟩ e
        have := BR.out.c 0 _ rfl
        subst e
        simp [World.cell?, he] at this
      have HNE := Lib.hid hne
      clear hne
      go_wp2_with fail
      refine bodyPost_ret (v := .agg #[.map (some c1), .map (some c2)]) (by simp [results, Try.results119, go_sem, r0, r1]) rfl ⟨c1, c2, rfl, ?_, ?_, ?_⟩
      · exact OwnM.set (OwnM.set HM1.out (HNE.out _ _ _ HM1.out) _) (HNE.out _ _ _ HM1.out) _
      · exact OwnM.set (OwnM.set HM2.out (HNE.out _ _ _ HM2.out) _) (HNE.out _ _ _ HM2.out) _
      · exact (HB.out.setCell (p := ⟨w.heap.size + 1, 0, none⟩) (by show w.heap.size ≤ w.heap.size + 1; omega) _).setCell (p := ⟨w.heap.size + 1, 1, none⟩) (by show w.heap.size ≤ w.heap.size + 1; omega) _
end Go.Proofs.Ytjmaapbodacggaa
