/- The law's own functions on block codes: szBlockCode, toBlockCode, eqBlockCode. -/
import Derived.Test.YtjmaapbodacggaaRs
import Derived.Test.YtjmaapbodacggaaBk
namespace Go.Proofs.Ytjmaapbodacggaa
open Go Go.RowKit
set_option linter.unusedVariables false

/-- The cells of a block code. -/
def bcV (d wd : Int) (vm vp : Value) : List Value := [.int .i64 d, .int .i64 wd, vm, vp]
/-- What the law counts. -/
def szBC (m p : List ByteArray) : Int := if szS m 1048576 < 0 then -1 else szS p (szS m 1048576)
theorem szBC_ok {m p : List ByteArray} (h : ¬ szBC m p < 0) : (m.length ≤ 1048576 ∧ ∀ s ∈ m, s.size ≤ 1048576) ∧ (p.length ≤ 1048576 ∧ ∀ s ∈ p, s.size ≤ 1048576) := by
  unfold szBC at h
  split at h
  · omega
  · rename_i h1
    obtain ⟨a1, a2⟩ := szS_ok m 1048576 (by omega)
    have hle := szS_le m 1048576 (by omega)
    obtain ⟨b1, b2⟩ := szS_ok p _ (by omega : 0 ≤ szS p (szS m 1048576))
    exact ⟨⟨by omega, fun s hs => by have := a2 s hs; omega⟩, by omega, fun s hs => by have := b2 s hs; omega⟩
theorem szBC_ge (m p : List ByteArray) : -1 ≤ szBC m p := by
  unfold szBC
  split
  · omega
  · exact (szS_le p _ (by omega)).1

set_option maxRecDepth 100000 in
theorem szBlockCode_any (w : World) (d wd : Int) (vm vp : Value) (m p : List ByteArray) (hm : RdS w vm m) (hp : RdS w vp p) (sm : ∀ s ∈ m, s.size ≤ maxLen) (sp : ∀ s ∈ p, s.size ≤ maxLen) :
    Calls Try.prog 22 #[.agg #[.int .i64 d, .int .i64 wd, vm, vp], .int .i64 1048576] w fun e w' => e = .returned (.int .i64 (szBC m p)) ∧ Below w.heap.size w w' := by
  obtain ⟨A1, c1, e1⟩ := rds_sh hm
  obtain ⟨A2, c2, e2⟩ := rds_sh hp
  generalize m.length = n1 at e1
  generalize p.length = n2 at e2
  subst e1 e2
  have HB : Hid (Below w.heap.size w (w.alloc (.cells #[.int .i64 d, .int .i64 wd, .slice A1 n1 c1, .slice A2 n2 c2] 32))) := (Below.refl _ _).alloc (Nat.le_refl _) _
  have HM := Lib.hid (hm.keep HB.out)
  have HP := Lib.hid (hp.keep HB.out)
  have CM := Lib.hid (fun W h => szStringS_any W (.slice A1 n1 c1) m 1048576 h sm (by omega) (by omega))
  have hle := szS_le m 1048576 (by omega)
  have CP := Lib.hid (fun W h h0 => szStringS_any W (.slice A2 n2 c2) p (szS m 1048576) h sp h0 (by omega))
  have hz : szBC m p = if szS m 1048576 < 0 then -1 else szS p (szS m 1048576) := rfl
  have HG := szBC_ge m p
  clear hm hp sm sp
  generalize szS m 1048576 = z at *
  generalize szBC m p = R at *
  obtain ⟨l0, l1⟩ := hle
  by_cases h : z < 0
  · rw [if_pos h] at hz
    obtain rfl : z = -1 := by omega
    have HZ := Lib.hid hz
    clear hz CP h l0 l1
    go_enter Try.func22, Try.ntmps22
    go_wp2_with fail
    refine (CM.out _ HM.out).mono ?_; rintro e w' ⟨rfl, rfl⟩
    go_wp2_with fail
    go_ret
    exact ⟨ret_int (by rw [HZ.out]), HB.out⟩
  · rw [if_neg h] at hz
    have h0 : 0 ≤ z := by omega
    rw [← hz] at CP
    clear hz l0
    by_cases h3 : R < 0
    · obtain rfl : R = -1 := by omega
      clear h HG h3
      go_enter Try.func22, Try.ntmps22
      go_wp2_with fail
      refine (CM.out _ HM.out).mono ?_; rintro e w' ⟨rfl, rfl⟩
      go_wp2_with fail
      refine (CP.out _ HP.out h0).mono ?_; rintro e w' ⟨rfl, rfl⟩
      go_wp2_with fail
      go_ret
      exact ⟨rfl, HB.out⟩
    · clear h HG
      go_enter Try.func22, Try.ntmps22
      go_wp2_with fail
      refine (CM.out _ HM.out).mono ?_; rintro e w' ⟨rfl, rfl⟩
      go_wp2_with fail
      refine (CP.out _ HP.out h0).mono ?_; rintro e w' ⟨rfl, rfl⟩
      go_wp2_with fail
      go_ret
      exact ⟨rfl, HB.out⟩

set_option maxRecDepth 100000 in
theorem eqBlockCode_rd (w : World) (d wd : Int) (v1 v2 u1 u2 : Value) (m p : List ByteArray) (h1 : RdS w v1 m) (h2 : RdS w v2 p) (h3 : RdS w u1 m) (h4 : RdS w u2 p) :
    Calls Try.prog 27 #[.agg #[.int .i64 d, .int .i64 wd, v1, v2], .agg #[.int .i64 d, .int .i64 wd, u1, u2]] w fun e w' => e = .returned (.bool true) ∧ Below w.heap.size w w' := by
  obtain ⟨A1, c1, e1⟩ := rds_sh h1
  obtain ⟨A2, c2, e2⟩ := rds_sh h2
  obtain ⟨A3, c3, e3⟩ := rds_sh h3
  obtain ⟨A4, c4, e4⟩ := rds_sh h4
  generalize m.length = n1 at e1 e3
  generalize p.length = n2 at e2 e4
  subst e1 e2 e3 e4
  have HB : Hid (Below w.heap.size w ((w.alloc (.cells #[.int .i64 d, .int .i64 wd, .slice A1 n1 c1, .slice A2 n2 c2] 36)).alloc (.cells #[.int .i64 d, .int .i64 wd, .slice A3 n1 c3, .slice A4 n2 c4] 36))) := ((Below.refl _ _).alloc (Nat.le_refl _) _).alloc (by simp) _
  have b1 := (Bk.new w (bcV d wd (.slice A1 n1 c1) (.slice A2 n2 c2)) 36 w.heap.size rfl).alloc (.cells #[.int .i64 d, .int .i64 wd, .slice A3 n1 c3, .slice A4 n2 c4] 36)
  have b2 := Bk.new (w.alloc (.cells #[.int .i64 d, .int .i64 wd, .slice A1 n1 c1, .slice A2 n2 c2] 36)) (bcV d wd (.slice A3 n1 c3) (.slice A4 n2 c4)) 36 (w.heap.size + 1) (by simp)
  have H1 := Lib.hid (h1.keep HB.out)
  have H2 := Lib.hid (h2.keep HB.out)
  have H3 := Lib.hid (h3.keep HB.out)
  have H4 := Lib.hid (h4.keep HB.out)
  have B1 := Lib.hid b1
  have B2 := Lib.hid b2
  have t1 : (d != d) = false := by simp
  have t2 : (wd != wd) = false := by simp
  clear h1 h2 h3 h4 b1 b2
  go_enter Try.func27, Try.ntmps27
  go_wp2_with fail
  refine (eqStringS_rd _ _ _ m H1.out H3.out).mono ?_; rintro e w1 ⟨rfl, q1, rfl⟩
  go_wp2_with fail
  refine (eqStringS_rd _ _ _ p (H2.out.drewN q1) (H4.out.drewN q1)).mono ?_; rintro e w1 ⟨rfl, q2, rfl⟩
  go_wp2_with fail
  go_ret
  exact ⟨rfl, below_drewN HB.out (q1 + q2)⟩

set_option maxRecDepth 100000 in
theorem toBlockCode_own (w : World) (d wd : Int) (vm vp : Value) (m p : List ByteArray) (hm : RdS w vm m) (hp : RdS w vp p) (lm : m.length ≤ 4000000) (lp : p.length ≤ 4000000) :
    Calls Try.prog 24 #[.agg #[.int .i64 d, .int .i64 wd, vm, vp]] w fun e w' => ∃ um up mid, e = .returned (.agg #[.int .i64 d, .int .i64 wd, um, up]) ∧ OwnT w' w.heap.size um m ∧ (∀ k, um.ownBlock = some k → k < mid) ∧ OwnT w' mid up p ∧ w.heap.size ≤ mid ∧ mid ≤ w'.heap.size ∧ Below w.heap.size w w' := by
  obtain ⟨A1, c1, e1⟩ := rds_sh hm
  obtain ⟨A2, c2, e2⟩ := rds_sh hp
  generalize m.length = n1 at e1
  generalize p.length = n2 at e2
  subst e1 e2
  obtain ⟨W3, hW3⟩ : ∃ W3, W3 = (((w.alloc (.cells #[.int .i64 d, .int .i64 wd, .slice A1 n1 c1, .slice A2 n2 c2] 32)).alloc (.cells #[.int .i64 0, .int .i64 0, .slice none 0 0, .slice none 0 0] 36)).alloc (.cells #[.int .i64 d, .int .i64 wd, .slice none 0 0, .slice none 0 0] 36)) := ⟨_, rfl⟩
  have hbw : Below w.heap.size w W3 := by rw [hW3]; exact (((Below.refl _ _).alloc (Nat.le_refl _) _).alloc (by simp) _).alloc (by simp; omega) _
  have ba : Bk W3 w.heap.size (bcV d wd (.slice A1 n1 c1) (.slice A2 n2 c2)) := by rw [hW3]; exact ((Bk.new w (bcV d wd (.slice A1 n1 c1) (.slice A2 n2 c2)) _ _ rfl).alloc _).alloc _
  have br : Bk W3 (w.heap.size + 1) (bcV 0 0 (.slice none 0 0) (.slice none 0 0)) := by rw [hW3]; exact (Bk.new _ (bcV 0 0 (.slice none 0 0) (.slice none 0 0)) _ _ (by simp)).alloc _
  have bo : Bk W3 (w.heap.size + 1 + 1) (bcV d wd (.slice none 0 0) (.slice none 0 0)) := by rw [hW3]; exact Bk.new _ (bcV d wd (.slice none 0 0) (.slice none 0 0)) _ _ (by simp)
  have hz3 : W3.heap.size = w.heap.size + 1 + 1 + 1 := by rw [hW3]; simp
  have HB := Lib.hid hbw
  have BA := Lib.hid ba
  have BR := Lib.hid br
  have BO := Lib.hid bo
  have HM := Lib.hid (hm.keep hbw)
  have HP := Lib.hid hp
  have HW := Lib.hid hW3
  have HZ := Lib.hid hz3
  clear hm hp hbw ba br bo hW3 hz3
  go_enter Try.func24, Try.ntmps24
  go_wp2_with fail
  rw [← HW.out]
  refine (toStringS_any W3 _ m HM.out lm).mono ?_; rintro e w1 ⟨u1, rfl, ho1, hb1⟩
  obtain ⟨A3, c3, rfl⟩ := ownt_shape ho1
  have HB1 := Lib.hid (HB.out.trans (hb1.mono HB.out.size))
  have BA1 := Lib.hid (BA.out.keep hb1)
  have BR1 := Lib.hid (BR.out.keep hb1)
  have BO1 := Lib.hid (BO.out.keep hb1)
  have HS1 : Hid (w.heap.size + 1 + 1 < w1.heap.size) := by show _ < _; have := hb1.size; have := HZ.out; omega
  have HO1 := Lib.hid ho1
  clear ho1 hb1 BA BR BO HB HW HM
  generalize m.length = k1 at *
  have p1 := BA1.out.c 3 _ rfl
  have p2 := BO1.out.c 2 _ rfl
  have p3 := BO1.out.f 2 (by show 2 < 4; omega)
  have HB2 := Lib.hid (HB1.out.setCell (p := ⟨w.heap.size + 1 + 1, 2, none⟩) (by show w.heap.size ≤ w.heap.size + 1 + 1; omega) (.slice A3 k1 c3))
  have BO2 := Lib.hid (BO1.out.set 2 (by show 2 < 4; omega) (.slice A3 k1 c3))
  have BR2 := Lib.hid (BR1.out.far ⟨w.heap.size + 1 + 1, 2, none⟩ (by simp) (.slice A3 k1 c3))
  have HO2 := Lib.hid (OwnT.set HO1.out (a := ⟨w.heap.size + 1 + 1, 2, none⟩) (by show w.heap.size + 1 + 1 < _; have := HZ.out; omega) (.slice A3 k1 c3))
  have HZ2 : Hid ((w1.setCell ⟨w.heap.size + 1 + 1, 2, none⟩ (.slice A3 k1 c3)).heap.size = w1.heap.size) := by show _ = _; simp [World.setCell]
  clear HB1 BR1 BO1 HO1
  go_wp2_with fail
  clear p1 p2 p3 BA1
  generalize w1.setCell ⟨w.heap.size + 1 + 1, 2, none⟩ (.slice A3 k1 c3) = w2 at *
  refine (toStringS_any w2 _ p (HP.out.keep HB2.out) lp).mono ?_; rintro e w3 ⟨u2, rfl, ho3, hb3⟩
  obtain ⟨A4, c4, rfl⟩ := ownt_shape ho3
  have HB3 := Lib.hid (HB2.out.trans (hb3.mono HB2.out.size))
  have BR3 := Lib.hid (BR2.out.keep hb3)
  have BO3 := Lib.hid (BO2.out.keep hb3)
  have HO3 := Lib.hid (OwnT.keep HO2.out hb3)
  have HT3 := Lib.hid ho3
  have HL : Hid (w.heap.size + 1 + 1 < w2.heap.size) := by show _ < _; have := HZ2.out; have := HS1.out; omega
  have HL3 : Hid (w2.heap.size ≤ w3.heap.size) := hb3.size
  have HMD : Hid (∀ k', (Value.slice A3 k1 c3).ownBlock = some k' → k' < w2.heap.size) := by
    show ∀ _, _
    exact fun k' hk => (World.ownsRow.lt HO2.out k' hk).2
  clear ho3 hb3 HB2 BR2 BO2 HO2 HP HS1 HZ2
  generalize p.length = k2 at *
  have p0 := BO3.out.c 0 _ rfl
  have p1 := BO3.out.c 1 _ rfl
  have p2 := BO3.out.c 2 _ rfl
  have p3 := BO3.out.c 3 _ rfl
  have f3 := BO3.out.f 3 (by show 3 < 4; omega)
  have r0 := BR3.out.c 0 _ rfl
  have r1 := BR3.out.c 1 _ rfl
  have r2 := BR3.out.c 2 _ rfl
  have r3 := BR3.out.c 3 _ rfl
  have g0 := BR3.out.f 0 (by show 0 < 4; omega)
  have g1 := BR3.out.f 1 (by show 1 < 4; omega)
  have g2 := BR3.out.f 2 (by show 2 < 4; omega)
  have g3 := BR3.out.f 3 (by show 3 < 4; omega)
  go_wp2_with fail
  have hlo : w.heap.size + 1 + 1 < W3.heap.size := by have := HZ.out; omega
  refine bodyPost_ret (v := .agg #[.int .i64 d, .int .i64 wd, .slice A3 k1 c3, .slice A4 k2 c4]) (by simp [results, Try.results24, go_sem, r0, r1, r2, r3]) rfl ⟨_, _, w2.heap.size, rfl, OwnT.base (base := W3.heap.size) (base' := w.heap.size) ?_ (by omega), HMD.out, ?_, by have := HL.out; omega, by have := HL3.out; simpa [World.setCell] using this, ?_⟩
  · exact (((((HO3.out.set (a := ⟨w.heap.size + 1 + 1, 3, none⟩) hlo _).set (a := ⟨w.heap.size + 1, 0, none⟩) (by show w.heap.size + 1 < _; omega) _).set (a := ⟨w.heap.size + 1, 1, none⟩) (by show w.heap.size + 1 < _; omega) _).set (a := ⟨w.heap.size + 1, 2, none⟩) (by show w.heap.size + 1 < _; omega) _).set (a := ⟨w.heap.size + 1, 3, none⟩) (by show w.heap.size + 1 < _; omega) _)
  · have hl2 := HL.out
    exact (((((HT3.out.set (a := ⟨w.heap.size + 1 + 1, 3, none⟩) hl2 _).set (a := ⟨w.heap.size + 1, 0, none⟩) (by show w.heap.size + 1 < _; omega) _).set (a := ⟨w.heap.size + 1, 1, none⟩) (by show w.heap.size + 1 < _; omega) _).set (a := ⟨w.heap.size + 1, 2, none⟩) (by show w.heap.size + 1 < _; omega) _).set (a := ⟨w.heap.size + 1, 3, none⟩) (by show w.heap.size + 1 < _; omega) _)
  · exact (((((HB3.out.setCell (p := ⟨w.heap.size + 1 + 1, 3, none⟩) (by show w.heap.size ≤ w.heap.size + 1 + 1; omega) _).setCell (p := ⟨w.heap.size + 1, 0, none⟩) (by show w.heap.size ≤ w.heap.size + 1; omega) _).setCell (p := ⟨w.heap.size + 1, 1, none⟩) (by show w.heap.size ≤ w.heap.size + 1; omega) _).setCell (p := ⟨w.heap.size + 1, 2, none⟩) (by show w.heap.size ≤ w.heap.size + 1; omega) _).setCell (p := ⟨w.heap.size + 1, 3, none⟩) (by show w.heap.size ≤ w.heap.size + 1; omega) _)

theorem toBlockCode_any (w : World) (d wd : Int) (vm vp : Value) (m p : List ByteArray) (hm : RdS w vm m) (hp : RdS w vp p) (lm : m.length ≤ 4000000) (lp : p.length ≤ 4000000) :
    Calls Try.prog 24 #[.agg #[.int .i64 d, .int .i64 wd, vm, vp]] w fun e w' => ∃ um up, e = .returned (.agg #[.int .i64 d, .int .i64 wd, um, up]) ∧ RdS w' um m ∧ RdS w' up p ∧ Below w.heap.size w w' :=
  (toBlockCode_own w d wd vm vp m p hm hp lm lp).mono fun e w' ⟨um, up, mid, he, h1, h2, h3, h4, h6, h5⟩ => ⟨um, up, he, h1.rds, h3.rds, h5⟩
end Go.Proofs.Ytjmaapbodacggaa
