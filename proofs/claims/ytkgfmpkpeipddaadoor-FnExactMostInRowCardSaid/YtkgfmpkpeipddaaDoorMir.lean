/- MostInRow: the model's and the program's. -/
import Derived.Test.YtkgfmpkpeipddaaDoorPbi
import Derived.Test.YtkgfmpkpeipddaaDoorInts
import Derived.Test.YtkgfmpkpeipddaaDoorMm8
namespace Go.Proofs.YtkgfmpkpeipddaaDoor
open Go Go.RowKit
set_option linter.unusedVariables false

/-- What MostInRow answers. -/
def miOk (r c b : Int) : Bool := sdB r c && decide (1 ≤ b ∧ b ≤ r * c)
def miV (r c b : Int) : Int := if miOk r c b then (mxR r.toNat b.toNat : Nat) else 0
theorem mi_no {r c b : Int} (h : miOk r c b = false) : miV r c b = 0 := by unfold miV; rw [h]; rfl
theorem mi_yes {r c b : Int} (h : miOk r c b = true) : miV r c b = (mxR r.toNat b.toNat : Nat) := by unfold miV; rw [h]; rfl
def i64V (l : List Nat) : List Value := l.map (fun (x : Nat) => Value.int .i64 (x : Int))
theorem i64V_set (l : List Nat) (j x : Nat) : (i64V l).set j (.int .i64 (x : Int)) = i64V (l.set j x) := by unfold i64V; rw [List.map_set]
theorem i64V_at (l : List Nat) (j : Nat) (h : j < l.length) : (i64V l)[j]? = some (.int .i64 ((l.getD j 0 : Nat) : Int)) := by
  unfold i64V; rw [List.getElem?_map, List.getElem?_eq_getElem h, List.getD_eq_getElem?_getD, List.getElem?_eq_getElem h]; rfl
set_option maxRecDepth 100000 in
set_option maxHeartbeats 2000000 in
theorem mostInRow_spec (r c b : Int) (w : World) :
    Calls Tryd.prog 20 #[.int .i64 r, .int .i64 c, .int .i64 b] w fun e w' => e = .returned (.tuple #[.int .i64 (miV r c b), .bool (miOk r c b)]) ∧ Below w.heap.size w w' := by
  have HB := Lib.hid (fun W => l08Block_any r c W)
  cases g0 : sdB r c
  · have hb : miOk r c b = false := by unfold miOk; rw [g0]; rfl
    rw [mi_no hb, hb]
    rw [g0] at HB
    clear g0 hb
    go_enter Tryd.func20, Tryd.ntmps20
    go_wp2_with fail
    refine (HB.out _).mono ?_; rintro e w' ⟨rfl, rfl⟩
    go_wp2_with fail
    go_ret2
    exact ⟨rfl, Below.refl _ _⟩
  · rw [g0] at HB
    obtain ⟨R, C, rfl, rfl, r1, r2, c1, c2, h4, h5⟩ := sd_nat g0
    have e0 : IntKind.i64.wrap ((R : Int) * (C : Int)) = ((R * C : Nat) : Int) := by rw [Int.natCast_mul]; exact IntWalk.i64_in _ (by rw [← Int.natCast_mul]; omega)
    have HI := Lib.hid (fun W => in8 b 1 ((R * C : Nat) : Int) W)
    by_cases hi : 1 ≤ b ∧ b ≤ ((R * C : Nat) : Int)
    · have hb : miOk (R : Int) (C : Int) b = true := by unfold miOk; rw [g0, ← Int.natCast_mul, decide_eq_true hi]; rfl
      rw [mi_yes hb, hb]
      rw [decide_eq_true hi] at HI
      obtain ⟨u, rfl⟩ := Int.eq_ofNat_of_zero_le (show 0 ≤ b by omega)
      rw [Int.toNat_natCast, Int.toNat_natCast]
      obtain ⟨N, hN⟩ : ∃ N, N = R * C := ⟨_, rfl⟩
      rw [← hN] at e0 HI h4 h5 hi
      obtain ⟨i0, hii, hz0, hz1, hz2⟩ := info_parts Tryd.infoInt
      have u1 : 1 ≤ u := by omega
      have u2 : u ≤ N := by omega
      have HMX := Lib.hid (mxR_max R)
      have HMS := Lib.hid (mxR_succ R)
      have HMM := Lib.hid (fun s t h => @mxR_mono R s t h)
      have HCN := Lib.hid (fun f t => cnR_at (r := R) f (by omega) t t (Nat.le_refl _) (by omega))
      have HCL := Lib.hid (fun f t => cnR_len R f t)
      have HCS : Hid (∀ f t, cnR R f (t + 1) = (cnR R f t).set ((f + t) % R) ((cnR R f t).getD ((f + t) % R) 0 + 1)) := fun f t => rfl
      have HC0 : Hid (∀ f, cnR R f 0 = List.replicate R 0) := fun f => rfl
      have HML := Lib.hid (fun x => Nat.mod_lt x (show 0 < R by omega))
      have HMD : Hid (∀ x : Nat, (x : Int) % (R : Int) = ((x % R : Nat) : Int)) := fun x => (Int.natCast_emod x R).symm
      have HDV : Hid (∀ t, t / R ≤ t) := fun t => Nat.div_le_self _ _
      have HLT := Lib.hid (by unfold mxR; split <;> have := Nat.div_le_self (u - 1) R <;> omega : mxR R u ≤ 401)
      have hR0 : ((R : Int) == 0) = false := by simpa using (show ¬ R = 0 by omega)
      have hR1 : (0 : Int) < (R : Int) := by omega
      have hRl : (R : Int) ≤ 20 := by omega
      clear g0 hb hi hN c1 c2 r1
      go_enter Tryd.func20, Tryd.ntmps20
      go_wp2_with fail
      refine (HB.out _).mono ?_; rintro e w' ⟨rfl, rfl⟩
      go_wp2_with fail
      refine (HI.out _).mono ?_; rintro e w' ⟨rfl, rfl⟩
      go_wp2_with fail
      go_loopw [8, 9] (fun m i wr => ∃ f : Nat, f + u ≤ N + 1 ∧ i = .int .i64 f ∧ m = .int .i64 ((if f = 0 then 0 else mxR R u : Nat) : Int) ∧ Below w.heap.size w wr) (fun _ i _ => N + 1 - (intOf i).toNat)
      case atStart => exact ⟨0, by omega, rfl, rfl, Below.refl _ _⟩
      case round =>
        obtain ⟨f, hf, rfl, rfl, hb⟩ := hrel
        have HBL := Lib.hid hb
        clear hb
        obtain ⟨m0, hm0⟩ : ∃ m0, m0 = (if f = 0 then 0 else mxR R u : Nat) := ⟨_, rfl⟩
        rw [← hm0]
        have HM0 := Lib.hid hm0
        clear hm0
        have hf0 : (0 : Int) ≤ (f : Int) := by omega
        by_cases hlt : f + u ≤ N
        · have hlt1 : (f : Int) + (u : Int) ≤ (N : Int) := by omega
          obtain ⟨W0, hW0⟩ : ∃ W0, W0 = wr := ⟨_, rfl⟩
          subst hW0
          go_wp2_with (at_make; refine wpList_make_full _ rfl _ _ 35 rfl W0.heap.size 2 i0 (.int .i64 0) 1 Tryd.underlying35 hii hz0 hz1 _ _ _ _ R rfl rfl rfl rfl ?b2 ?b3 (Nat.le_refl _) ?_)
          case b2 => rw [hz2]; omega
          case b3 => unfold maxLen; omega
          intro w1 hown hgrow
          have hb1 : Below w.heap.size w w1 := HBL.out.grown hgrow HBL.out.size (by simp)
          rw [toList_madeCells_one] at hown
          have HOZ : Hid (w1.ownsRow W0.heap.size 2 1 (.slice (some ⟨W0.heap.size, 0, none⟩) R R) R (i64V (cnR R f 0))) := by
            show World.ownsRow _ _ _ _ _ _ _
            rw [HC0.out, show i64V (List.replicate R 0) = List.replicate R (.int .i64 0) by simp [i64V]]
            exact hown
          have HB1 := Lib.hid hb1
          have hlo : w.heap.size ≤ W0.heap.size := HBL.out.size
          clear hgrow hown hb1
          go_wp2_with fail
          go_loopw [8, 11] (fun m i wr => ∃ t : Nat, t ≤ u ∧ i = .int .i64 ((f + t : Nat) : Int) ∧ m = .int .i64 ((max m0 (mxR R t) : Nat) : Int) ∧ wr.ownsRow W0.heap.size 2 1 (.slice (some ⟨W0.heap.size, 0, none⟩) R R) R (i64V (cnR R f t)) ∧ Below w.heap.size w wr) (fun _ i _ => f + u - (intOf i).toNat)
          case atStart => exact ⟨0, Nat.zero_le _, by simp, by simp [mxR], HOZ.out, HB1.out⟩
          case round =>
            clear HOZ HB1
            obtain ⟨t, ht, rfl, rfl, hown, hb⟩ := hrel
            have HO := Lib.hid hown
            have HBR := Lib.hid hb
            clear hown hb
            by_cases hlt2 : t < u
            · obtain ⟨x, hx⟩ : ∃ x, x = f + t := ⟨_, rfl⟩
              have hxl : (x : Int) < (f : Int) + (u : Int) := by omega
              have hx0 : (0 : Int) ≤ (x : Int) := by omega
              have hxb : (x : Int) ≤ 400 := by omega
              obtain ⟨j, hj⟩ : ∃ j, j = x % R := ⟨_, rfl⟩
              have hjl := HML.out x
              have ej := HMD.out x
              have hcn := HCN.out f t
              have hcs := HCS.out f t
              have hdv := HDV.out t
              have hmx := HMX.out t
              have hl := HCL.out f t
              rw [← hx] at hcn hcs
              rw [← hj] at hjl ej hcn hcs
              rw [hcn] at hcs
              have hcl := (HO.out.cellAt j (by omega)).trans ((i64V_at _ j (by omega)).trans (by rw [hcn]))
              have hfr := HO.out.frozenAt j
              have hst := (HO.out.stored j (.int .i64 ((t / R + 1 : Nat) : Int))).1
              rw [i64V_set, ← hcs] at hst
              have HST := Lib.hid hst
              obtain ⟨q, hq⟩ : ∃ q, q = t / R := ⟨_, rfl⟩
              rw [← hq] at HST hcl hdv hmx
              have hj0 : (0 : Int) ≤ (j : Int) := by omega
              have hj1 : (j : Int) < (R : Int) := by omega
              have hqb : (q : Int) ≤ 400 := by omega
              obtain ⟨Q, hQ⟩ : ∃ Q, Q = q + 1 := ⟨_, rfl⟩
              have hq1 : (q : Int) + 1 = (Q : Int) := by omega
              rw [← hQ] at HST hmx
              have HMQ : Hid (max ((max m0 (mxR R t) : Nat) : Int) (Q : Int) = ((max m0 (mxR R (t + 1)) : Nat) : Int)) := by show _ = _; rw [← hmx]; omega
              have hcl2 : (wr.setCell ⟨W0.heap.size, j, none⟩ (.int .i64 (Q : Int))).cell? ⟨W0.heap.size, j, none⟩ = some (.int .i64 (Q : Int)) := World.cell?_setCell_same _ _ _ hcl
              have hQb : (Q : Int) ≤ 401 := by omega
              have hQ0 : (0 : Int) ≤ (Q : Int) := by omega
              have HX : Hid (x + 1 = f + (t + 1)) := by show _ = _; omega
              rw [← hx]
              clear hst hcs hcn hmx hl hj hq hx hQ
              go_wp2_with fail
              have HMC := Lib.hid (max8 ((max m0 (mxR R t) : Nat) : Int) (Q : Int) (wr.setCell ⟨W0.heap.size, j, none⟩ (.int .i64 (Q : Int))))
              rw [HMQ.out] at HMC
              refine HMC.out.mono ?_; rintro e w' ⟨rfl, rfl⟩
              go_wp2_with fail
              go_roundw
              case rel => exact ⟨t + 1, by omega, by have := HX.out; go_num, rfl, HST.out, HBR.out.setCell (p := ⟨W0.heap.size, j, none⟩) hlo _⟩
              case measure => have := HX.out; simp [intOf]; omega
            · obtain rfl : t = u := by omega
              have HFM : Hid (max m0 (mxR R t) = mxR R t) := by
                show _ = _
                have := HM0.out
                split at this <;> omega
              rw [HFM.out]
              have hfl : ¬ ((f : Int) + (t : Int) < (f : Int) + (t : Int)) := by omega
              have e3 : ((f + t : Nat) : Int) = (f : Int) + (t : Int) := by omega
              rw [e3]
              clear HO HCN HCL HCS HC0 HML HMD HDV HMX HMS e3
              go_wp2_with fail
              go_roundw
              case rel => exact ⟨f + 1, by omega, by go_num, by rw [if_neg (by omega)], HBR.out⟩
              case measure => simp [intOf]; omega
        · have hlt1 : ¬ (f : Int) + (u : Int) ≤ (N : Int) := by omega
          have HFM : Hid (m0 = mxR R u) := by
            show _ = _
            have := HM0.out
            rw [if_neg (by omega)] at this
            exact this
          rw [HFM.out]
          clear HCN HCL HCS HC0 HML HMD HDV HMX HMS
          go_wp2_with fail
          go_ret2
          exact ⟨rfl, HBL.out⟩
    · have hb : miOk (R : Int) (C : Int) b = false := by unfold miOk; rw [← Int.natCast_mul, decide_eq_false hi]; simp
      rw [mi_no hb, hb]
      rw [decide_eq_false hi] at HI
      generalize ((R * C : Nat) : Int) = M at *
      clear g0 hb hi r1 r2 c1 c2 h4 h5
      go_enter Tryd.func20, Tryd.ntmps20
      go_wp2_with fail
      refine (HB.out _).mono ?_; rintro e w' ⟨rfl, rfl⟩
      go_wp2_with fail
      refine (HI.out _).mono ?_; rintro e w' ⟨rfl, rfl⟩
      go_wp2_with fail
      go_ret2
      exact ⟨rfl, Below.refl _ _⟩
set_option maxHeartbeats 1000000 in
theorem mostInRow_impl (r c b : Int) (w : World) (a : Addr) (hv : Ev 0 a w) :
    Calls Tryd.prog 21 #[.int .i64 r, .int .i64 c, .int .i64 b] w fun e w' => e = .returned (.tuple #[.int .i64 (miV r c b), .bool (miOk r c b)]) ∧ Below w.heap.size w w' := by
  cases g0 : sdB r c
  · have hb : miOk r c b = false := by unfold miOk; rw [g0]; rfl
    rw [mi_no hb, hb]
    have HB := Lib.hid (blockOf_no r c a w hv g0)
    clear g0 hb hv
    go_enter Tryd.func21, Tryd.ntmps21
    go_wp2_with fail
    refine HB.out.mono ?_; rintro e w1 ⟨rfl, hb1⟩
    have B1 := Lib.hid hb1
    clear hb1
    go_wp2_with fail
    go_ret2
    exact ⟨rfl, B1.out.alloc B1.out.size _⟩
  · have HB := Lib.hid (blockOf_yes r c w g0)
    obtain ⟨R, C, rfl, rfl, r1, r2, c1, c2, h4, h5⟩ := sd_nat g0
    have HI := Lib.hid (fun W => is8 b 1 ((R * C : Nat) : Int) W)
    have HP := Lib.hid (fun W => places_any R C W h4)
    by_cases hi : 1 ≤ b ∧ b ≤ ((R * C : Nat) : Int)
    · have hb : miOk (R : Int) (C : Int) b = true := by unfold miOk; rw [g0, ← Int.natCast_mul, decide_eq_true hi]; rfl
      rw [mi_yes hb, hb]
      rw [decide_eq_true hi] at HI
      obtain ⟨u, rfl⟩ := Int.eq_ofNat_of_zero_le (show 0 ≤ b by omega)
      rw [Int.toNat_natCast, Int.toNat_natCast]
      have hm : mxR R u = (u - 1) / R + 1 := by unfold mxR; rw [if_neg (by omega)]
      rw [hm]
      obtain ⟨v, hv1⟩ : ∃ v, v = u - 1 := ⟨_, rfl⟩
      have ev : (u : Int) - 1 = (v : Int) := by omega
      obtain ⟨q, hq⟩ : ∃ q, q = v / R := ⟨_, rfl⟩
      have eq : (v : Int) / (R : Int) = (q : Int) := by rw [hq]; exact (Int.natCast_ediv v R).symm
      have hql : q ≤ 400 := by rw [hq]; have := Nat.div_le_self v R; omega
      rw [← hv1, ← hq]
      have eq1 : (q : Int) + 1 = ((q + 1 : Nat) : Int) := by omega
      have hR0 : ((R : Int) == 0) = false := by simpa using (show ¬ R = 0 by omega)
      have hR1 : (0 : Int) < (R : Int) := by omega
      have hv0 : (0 : Int) ≤ (v : Int) := by omega
      have eqw : IntKind.i64.wrap (q : Int) = (q : Int) := IntWalk.i64_in _ (by omega)
      have eqw2 : IntKind.i64.wrap ((q : Int) + 1) = ((q + 1 : Nat) : Int) := by rw [eq1]; exact IntWalk.i64_in _ (by omega)
      clear eq1
      have hu1 : (1 : Int) ≤ (u : Int) := hi.1
      have hu2 : (u : Int) ≤ 9223372036854775807 := by omega
      generalize ((R * C : Nat) : Int) = M at *
      clear g0 hb hi r1 r2 c1 c2 h4 h5 hv hm hv1 hq hql
      go_enter Tryd.func21, Tryd.ntmps21
      go_wp2_with fail
      refine HB.out.mono ?_; rintro e w1 ⟨rfl, hb1⟩
      have K1 := Lib.hid (Bk.new w1 [.int .i64 (R : Int), .int .i64 (C : Int)] 38 _ rfl)
      have B1 := Lib.hid (hb1.alloc hb1.size (.cells #[.int .i64 (R : Int), .int .i64 (C : Int)] 38))
      have q0 := K1.out.c 0 _ rfl
      have q1 := K1.out.c 1 _ rfl
      clear hb1
      go_wp2_with fail
      refine (HP.out _).mono ?_; rintro e w2 ⟨rfl, hb2⟩
      have B2 := Lib.hid (B1.out.trans (hb2.mono B1.out.size))
      clear hb2 q0 q1
      go_wp2_with fail
      refine (HI.out _).mono ?_; rintro e w' ⟨rfl, rfl⟩
      go_wp2_with fail
      go_ret2
      exact ⟨rfl, B2.out⟩
    · have hb : miOk (R : Int) (C : Int) b = false := by unfold miOk; rw [← Int.natCast_mul, decide_eq_false hi]; simp
      rw [mi_no hb, hb]
      rw [decide_eq_false hi] at HI
      generalize ((R * C : Nat) : Int) = M at *
      clear g0 hb hi r1 r2 c1 c2 h4 h5 hv
      go_enter Tryd.func21, Tryd.ntmps21
      go_wp2_with fail
      refine HB.out.mono ?_; rintro e w1 ⟨rfl, hb1⟩
      have K1 := Lib.hid (Bk.new w1 [.int .i64 (R : Int), .int .i64 (C : Int)] 38 _ rfl)
      have B1 := Lib.hid (hb1.alloc hb1.size (.cells #[.int .i64 (R : Int), .int .i64 (C : Int)] 38))
      have q0 := K1.out.c 0 _ rfl
      have q1 := K1.out.c 1 _ rfl
      clear hb1
      go_wp2_with fail
      refine (HP.out _).mono ?_; rintro e w2 ⟨rfl, hb2⟩
      have B2 := Lib.hid (B1.out.trans (hb2.mono B1.out.size))
      clear hb2 q0 q1
      go_wp2_with fail
      refine (HI.out _).mono ?_; rintro e w' ⟨rfl, rfl⟩
      go_wp2_with fail
      go_ret2
      exact ⟨rfl, B2.out⟩
end Go.Proofs.YtkgfmpkpeipddaaDoor
