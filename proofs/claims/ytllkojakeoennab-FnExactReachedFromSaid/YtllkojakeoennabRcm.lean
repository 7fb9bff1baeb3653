/- The model's l00Own and l02Reached. -/
import Derived.Test.YtllkojakeoennabRch
import Derived.Test.YtllkojakeoennabR8p
import Derived.Deep.RegionHeld3
namespace Go.Proofs.Ytllkojakeoennab
open Go Go.RowKit
set_option linter.unusedVariables false

theorem rd_pos {w : World} {v : Value} {l : List Int} (h : Rd w v l) (h0 : 0 < l.length) : ∃ b o c, v = .slice (some ⟨b, o, none⟩) l.length c ∧ b < w.heap.size ∧ ∀ i (hi : i < l.length), w.cell? ⟨b, o + i, none⟩ = some (.int .i64 l[i]) := by
  obtain ⟨A, n, c, rfl, hn, h1, h2, h3⟩ := h
  subst hn
  obtain ⟨b, o, rfl, hlt, hc⟩ := h3 h0
  exact ⟨b, o, c, rfl, hlt, hc⟩
set_option maxRecDepth 100000 in
set_option maxHeartbeats 1000000 in
theorem l00Own_any (w : World) (v : Value) (l : List Int) (h : Rd w v l) (h0 : 0 < l.length) (hlen : l.length ≤ 100000) :
    Calls Try.prog 145 #[v] w fun e w' => ∃ u, e = .returned u ∧ Own w' w.heap.size u l ∧ Below w.heap.size w w' := by
  obtain ⟨i0, hi, hz0, hz1, hz2⟩ := info_parts Try.infoInt
  have kl : Below w.heap.size w (w.alloc (.cells #[] 2)) := (Below.refl _ _).alloc (Nat.le_refl _) _
  have HRL := h.keep kl
  obtain ⟨b, o, c, rfl, hlt, hc⟩ := rd_pos h h0
  have HLIT : Hid ((w.alloc (.cells #[] 2)).ownsRow w.heap.size 2 1 (.slice (some ⟨w.heap.size, 0, none⟩) 0 0) 0 []) := World.ownsRow_made w #[] 0 (Nat.le_refl _) (by decide) rfl
  have HSRC : Hid (∀ j u, (intVals l)[j]? = some u → (w.alloc (.cells #[] 2)).cell? ((⟨b, o, none⟩ : Addr).add j) = some u) := by
    show ∀ j u, _
    intro j u hj
    have hjl : j < l.length := by
      have := (List.getElem?_eq_some_iff.1 hj).1
      rw [intVals_length] at this; exact this
    rw [intVals_at l j hjl] at hj
    injection hj with hj
    subst hj
    have e : (⟨b, o, none⟩ : Addr).add j = ⟨b, o + j, none⟩ := by unfold Addr.add; split <;> simp_all
    rw [e]
    exact (kl.cell (p := ⟨b, o + j, none⟩) hlt).trans (hc j hjl)
  have H1C : Hid (∀ u ∈ intVals l, u.oneCell' = true) := by
    show ∀ u ∈ intVals l, _
    intro u hu
    obtain ⟨y, -, rfl⟩ := List.mem_map.1 hu
    rfl
  have HIL := Lib.hid (intVals_length l)
  have KL := Lib.hid kl
  clear h hc kl HRL
  go_enter Try.func145, Try.ntmps145
  go_wp2_with (at_builtin; refine wpList_append_own _ rfl _ _ 22 rfl w.heap.size 2 i0 (.int .i64 0) 1 8 Try.underlying22 hi hz0 hz1 hz2 rfl (by decide) _ _ _ rfl HLIT.out ⟨b, o, none⟩ l.length c (intVals l) rfl (by rw [HIL.out, Nat.mul_one]) HSRC.out H1C.out (by unfold maxLen; omega) (by omega) (by simp) ?_)
  intro v1 w1 hown1 hgrow1 _
  have HB : Hid (Below w.heap.size w w1) := KL.out.grown hgrow1 (by simp) (fun j hj => by simp [Value.ownBlock] at hj; omega)
  have HO : Hid (Own w1 w.heap.size v1 l) := by
    show Own _ _ _ _
    exact own_of hown1 (by first | rfl | simp) (by first | rfl | simp)
  clear hown1 hgrow1
  go_wp2_with fail
  go_ret
  exact ⟨_, rfl, HO.out, HB.out⟩

/-- The edges of a state below b put into a set. -/
def putN (g : List (List Int)) (z : Int) : Nat → List Int → List Int
  | 0, M => M
  | b + 1, M => putB g z b (putN g z b M)
theorem putB_len (g : List (List Int)) (z : Int) (b : Nat) (M : List Int) : (putB g z b M).length ≤ M.length + 1 := by
  unfold putB
  split
  · exact putF_len _ _
  · omega
theorem putN_len (g : List (List Int)) (z : Int) : ∀ (b : Nat) (M : List Int), (putN g z b M).length ≤ M.length + b
  | 0, M => Nat.le_refl _
  | b + 1, M => by have := putN_len g z b M; have := putB_len g z b (putN g z b M); rw [putN]; omega
theorem putE_len (g : List (List Int)) (M : List Int) (z : Int) : (putE g M z).length ≤ M.length + 2 := putN_len g z 2 M
theorem fold_len (g : List (List Int)) : ∀ (xs M : List Int), (xs.foldl (putE g) M).length ≤ M.length + 2 * xs.length
  | [], M => by simp
  | x :: xs, M => by
    have h1 := fold_len g xs (putE g M x)
    have h2 := putE_len g M x
    rw [List.foldl_cons, List.length_cons]; omega
theorem fold_take {g : List (List Int)} {L M : List Int} {i : Nat} {z : Int} (h : L[i]? = some z) : (L.take (i + 1)).foldl (putE g) M = putE g ((L.take i).foldl (putE g) M) z := by
  obtain ⟨hi, rfl⟩ := List.getElem?_eq_some_iff.1 h
  rw [List.take_succ_eq_append_getElem hi, List.foldl_append]; rfl
/-- The cells that the model reads for one edge. -/
theorem cell_keep {W W' : World} {p : Addr} {x : Value} (h : W.cell? p = some x) (hb : Below W.heap.size W W') : W'.cell? p = some x := (hb.cell (World.block_lt_of_cell? _ _ h)).trans h

theorem OwnI.dd {w : World} {base : Nat} {v : Value} {l : List Int} (h : Own w base v l) (q : Nat) : Own (w.drewN q).drew base v l := h
theorem OwnI.drewN {w : World} {base : Nat} {v : Value} {l : List Int} (h : Own w base v l) (q : Nat) : Own (w.drewN q) base v l := h

set_option maxRecDepth 100000 in
set_option maxHeartbeats 4000000 in
theorem l02Reached_any (w : World) (b : Nat) (v : Value) (g : List (List Int)) (x : Int) (hcv : w.cell? ⟨b, 0, none⟩ = some v) (h : RdG w v g) (hg : isG g = true) (hx : inS g.length x) :
    Calls Try.prog 97 #[.pointer (some ⟨b, 0, none⟩), .int .i64 x] w fun e w' => ∃ u, e = .returned u ∧ Own w' w.heap.size u (reachM g x g.length) ∧ Below w.heap.size w w' := by
  have HC := Lib.hid hcv
  have HR := Lib.hid h
  have HG := Lib.hid hg
  have HX := Lib.hid hx
  have HGL := Lib.hid (isG_le hg)
  obtain ⟨n1, n2⟩ := isG_le hg
  obtain ⟨A, c, rfl⟩ := rdg_shape h
  have HLEN : Hid (∀ k, (reachM g x k).length ≤ g.length) := by show ∀ k, _; exact fun k => rise_len _ _ (reachM_rise g x k) (reachM_in hg hx k)
  obtain ⟨w1, hw1⟩ : ∃ w1, w1 = w.alloc (.cells #[.int .i64 x] 2) := ⟨_, rfl⟩
  have HW1 := Lib.hid hw1
  have HB1 : Hid (Below w.heap.size w w1) := by show Below _ _ _; rw [hw1]; exact (Below.refl _ _).alloc (Nat.le_refl _) _
  have HO1 : Hid (Own w1 w.heap.size (.slice (some ⟨w.heap.size, 0, none⟩) 1 1) [x]) := by show Own _ _ _ _; rw [hw1]; exact own_one w x
  clear hcv h hg hx hw1
  generalize hn : g.length = n at *
  have HN := Lib.hid hn
  clear hn
  go_enter Try.func97, Try.ntmps97
  go_wp2_with fail
  rw [← HW1.out]
  go_loopw [5, 6] (fun u i wr => ∃ (k : Nat) (L : List Int), k ≤ n ∧ i = .int .i64 k ∧ Hid (L = reachM g x k) ∧ Own wr w.heap.size u L ∧ Below w.heap.size w wr) (fun _ i _ => n - (intOf i).toNat)
  case atStart => exact ⟨0, [x], Nat.zero_le _, rfl, rfl, HO1.out, HB1.out⟩
  case round =>
    obtain ⟨k, L, hk, rfl, hL, hown, hbw⟩ := hrel
    have HO := Lib.hid hown
    have HB := Lib.hid hbw
    have hcg := cell_keep HC.out (hbw.mono (Nat.le_refl _))
    clear hown hbw HO1 HB1
    by_cases hlt : k < n
    · have hlt' : (k : Int) < (n : Int) := by omega
      have hLn : L.length ≤ n := by rw [hL.out]; exact HLEN.out k
      have hL0 : 0 < L.length := by
        have := reachM_from g x k
        rw [← hL.out] at this
        cases L with
        | nil => cases this
        | cons a b => simp
      go_wp2_with fail
      refine (l00Own_any _ _ L HO.out.rd hL0 (by omega)).mono ?_; rintro e w2 ⟨vn, rfl, ho2, hb2⟩
      have HM2 := Lib.hid (ho2.base HB.out.size)
      have HO2 := Lib.hid (HO.out.keep hb2)
      have HB2 := Lib.hid (HB.out.trans (hb2.mono HB.out.size))
      clear ho2 hb2 HO HB hcg
      obtain ⟨go, co, rfl, -⟩ := own_some HO2.out hL0
      go_wp2_with fail
      go_loopw [7, 8] (fun m i wr => ∃ (j : Nat) (M : List Int), j ≤ L.length ∧ i = .int .i64 j ∧ Hid (M = (L.take j).foldl (putE g) L) ∧ M.length ≤ 12 + 2 * j ∧ Own wr w.heap.size m M ∧ Own wr w.heap.size (.slice (some ⟨go, 0, none⟩) L.length co) L ∧ Below w.heap.size w wr) (fun _ i _ => L.length - (intOf i).toNat)
      case atStart => exact ⟨0, L, Nat.zero_le _, rfl, rfl, by omega, HM2.out, HO2.out, HB2.out⟩
      case round =>
        obtain ⟨j, M, hj, rfl, hM, hMl, hownM, hown, hbw⟩ := hrel
        have HM := Lib.hid hownM
        have HO := Lib.hid hown
        have HB := Lib.hid hbw
        clear hownM hown hbw HM2 HO2 HB2
        by_cases hjl : j < L.length
        · have hj' : (j : Int) < (L.length : Int) := by omega
          have hj0 : (0 : Int) ≤ (j : Int) := by omega
          obtain ⟨z, hz⟩ : ∃ z, L[j]? = some z := ⟨_, List.getElem?_eq_getElem hjl⟩
          have HZE := Lib.hid hz
          have hzin : inS g.length z := by
            rw [HN.out]
            have hm := List.mem_of_getElem? hz
            rw [hL.out] at hm
            have := reachM_in HG.out (by rw [HN.out]; exact HX.out) k z hm
            rwa [HN.out] at this
          obtain ⟨zz, hzz⟩ : ∃ zz : Nat, z = (zz : Int) := ⟨z.toNat, by have := hzin.1; omega⟩
          have hzl : zz < g.length := by have := hzin.2; omega
          have HCO : Hid (∀ W, Own W w.heap.size (.slice (some ⟨go, 0, none⟩) L.length co) L → W.cell? ⟨go, j, none⟩ = some (.int .i64 z)) := by
            show ∀ W, _
            intro W ho
            rw [World.ownsRow.cellAt ho j (by omega)]
            simp [intVals, hz]
          have HE0 : Hid (g[zz].getD 0 0 = eG g z 0) := by show _ = _; unfold eG; rw [hzz, Int.toNat_natCast]; simp [List.getD, hzl]
          have HE1 : Hid (g[zz].getD 1 0 = eG g z 1) := by show _ = _; unfold eG; rw [hzz, Int.toNat_natCast]; simp [List.getD, hzl]
          obtain ⟨b1, o1, m1, c1, b2, o2, c2, hv, hm1, r0, r1, r2⟩ := rdg_at HR.out HG.out zz hzl
          injection hv with hv1 hv2 hv3
          subst hv1
          rw [HE0.out] at r1
          rw [HE1.out] at r2
          have HRC : Hid (∀ W, Below w.heap.size w W → W.cell? ⟨b, 0, none⟩ = some (.slice (some ⟨b1, o1, none⟩) n c) ∧ W.cell? ⟨b1, o1 + zz, none⟩ = some (.slice (some ⟨b2, o2, none⟩) 2 c2) ∧ W.cell? ⟨b2, o2, none⟩ = some (.int .i64 (eG g z 0)) ∧ W.cell? ⟨b2, o2 + 1, none⟩ = some (.int .i64 (eG g z 1))) := by
            show ∀ W, _
            exact fun W hb => ⟨cell_keep HC.out hb, cell_keep r0 hb, cell_keep r1 hb, cell_keep r2 hb⟩
          have HFT : Hid ((L.take (j + 1)).foldl (putE g) L = putE g M z) := by show _ = _; rw [fold_take hz, ← hM.out]
          have z0 : (0 : Int) ≤ (zz : Int) := by omega
          have z1 : (zz : Int) < (n : Int) := by have := HN.out; omega
          obtain ⟨y0, hy0⟩ : ∃ y, eG g z 0 = y := ⟨_, rfl⟩
          obtain ⟨y1, hy1⟩ : ∃ y, eG g z 1 = y := ⟨_, rfl⟩
          rw [hy0, hy1] at HRC
          have E0 := Lib.hid hy0
          have E1 := Lib.hid hy1
          have HZZ := Lib.hid hzz
          rw [HZZ.out] at HCO
          have HCB : Hid (∀ W, Below w.heap.size w W → Own W w.heap.size (.slice (some ⟨go, 0, none⟩) L.length co) L → W.cell? ⟨b, 0, none⟩ = some (.slice (some ⟨b1, o1, none⟩) n c) ∧ W.cell? ⟨b1, o1 + zz, none⟩ = some (.slice (some ⟨b2, o2, none⟩) 2 c2) ∧ W.cell? ⟨b2, o2, none⟩ = some (.int .i64 y0) ∧ W.cell? ⟨b2, o2 + 1, none⟩ = some (.int .i64 y1) ∧ W.cell? ⟨go, j, none⟩ = some (.int .i64 (zz : Int))) := by
            show ∀ W, _
            intro W hb ho
            obtain ⟨a1, a2, a3, a4⟩ := HRC.out W hb
            exact ⟨a1, a2, a3, a4, HCO.out W ho⟩
          clear hv2 hv3 r0 r1 r2 hy0 hy1 hz hzin hzz HE0 HE1 HRC HCO hzl hm1
          go_wp2_with fail
          go_loopw [7, 9] (fun m bv wr => ∃ (bb : Nat) (M' : List Int), bb ≤ 2 ∧ bv = .int .i64 bb ∧ Hid (M' = putN g z bb M) ∧ M'.length ≤ 12 + 2 * j + bb ∧ Own wr w.heap.size m M' ∧ Own wr w.heap.size (.slice (some ⟨go, 0, none⟩) L.length co) L ∧ Below w.heap.size w wr) (fun _ bv _ => 2 - (intOf bv).toNat)
          case atStart => exact ⟨0, M, by decide, rfl, rfl, by omega, HM.out, HO.out, HB.out⟩
          case round =>
            obtain ⟨bb, M', hbb, rfl, hM', hMl', hownM, hown, hbw⟩ := hrel
            have HM3 := Lib.hid hownM
            have HO3 := Lib.hid hown
            have HB3 := Lib.hid hbw
            clear hownM hown hbw HM HO HB
            obtain ⟨q0, q1, q2, q3, q4⟩ := HCB.out _ HB3.out HO3.out
            by_cases hb2 : bb = 2
            · subst hb2
              clear q0 q1 q2 q3 q4
              go_wp2_with fail
              go_roundw
              case rel => exact ⟨j + 1, M', by omega, by go_num, hM'.out.trans HFT.out.symm, by omega, HM3.out, HO3.out, HB3.out⟩
              case measure => first | (simp [intOf]; done) | (simp [intOf]; omega)
            · rcases (show bb = 0 ∨ bb = 1 by omega) with rfl | rfl
              · clear hbb hb2
                by_cases hy : 0 ≤ y0
                · have HMN : Hid (putF y0 M' = putN g z 1 M) := by
                    show _ = _
                    rw [putN, ← hM'.out]
                    unfold putB
                    rw [E0.out, if_pos hy]
                  have HPL : Hid ((putF y0 M').length ≤ M'.length + 1) := putF_len _ _
                  have HPU : Hid (∀ W v, Rd W v M' → Calls Try.prog 72 #[v, .int .i64 y0] W fun e w' => ∃ u, e = .returned u ∧ Own w' W.heap.size u (putF y0 M') ∧ Below W.heap.size W w') := by
                    show ∀ W v, _
                    exact fun W v hr => l00Put_any W v M' y0 hr (by omega)
                  clear hM'
                  go_wp2_with fail
                  go_quiet (fail)
                  go_wp2_with fail
                  have HCX : Hid (∀ q, (wr.drewN q).drew.cell? ⟨b, 0, none⟩ = some (.slice (some ⟨b1, o1, none⟩) n c) ∧ (wr.drewN q).drew.cell? ⟨b1, o1 + zz, none⟩ = some (.slice (some ⟨b2, o2, none⟩) 2 c2) ∧ (wr.drewN q).drew.cell? ⟨b2, o2, none⟩ = some (.int .i64 y0) ∧ (wr.drewN q).drew.cell? ⟨b2, o2 + 1, none⟩ = some (.int .i64 y1) ∧ (wr.drewN q).drew.cell? ⟨go, j, none⟩ = some (.int .i64 (zz : Int))) := by
                    show ∀ q, _
                    exact fun q => HCB.out _ (below_drewN HB3.out q).drew (OwnI.dd HO3.out q)
                  go_region_held3 (fun w' => w'.cell? ⟨b, 0, none⟩ = some (.slice (some ⟨b1, o1, none⟩) n c) ∧ w'.cell? ⟨b1, o1 + zz, none⟩ = some (.slice (some ⟨b2, o2, none⟩) 2 c2) ∧ w'.cell? ⟨b2, o2, none⟩ = some (.int .i64 y0) ∧ w'.cell? ⟨b2, o2 + 1, none⟩ = some (.int .i64 y1) ∧ w'.cell? ⟨go, j, none⟩ = some (.int .i64 (zz : Int))) ((first | with_reducible exact HCB.out _ B7.out O7.out | with_reducible exact HCX.out _ | fail))
                    (first
                      | (go_at_call 72; refine (HPU.out _ _ (OwnI.dd HM3.out _).rd).mono ?_; rintro e u7 ⟨v7, rfl, ho7, hb7⟩; have B7 := Lib.hid ((below_drewN HB3.out _).drew.trans (hb7.mono (below_drewN HB3.out _).drew.size)); have O7 := Lib.hid (Own.keep (OwnI.dd HO3.out _) hb7); have M7 := Lib.hid (Own.base ho7 (below_drewN HB3.out _).drew.size); clear ho7 hb7)
                      | fail)
                  all_goals go_wp2_with fail
                  all_goals go_roundw
                  case rel => exact ⟨1, putF y0 M', by omega, by first | rfl | go_num, HMN.out, by have := HPL.out; omega, M7.out, O7.out, B7.out⟩
                  case measure => first | (simp [intOf]; done) | (simp [intOf]; omega)
                · have HMN : Hid (M' = putN g z 1 M) := by
                    show _ = _
                    rw [putN, ← hM'.out]
                    unfold putB
                    rw [E0.out, if_neg hy]
                  clear hM'
                  go_wp2_with fail
                  go_quiet (fail)
                  go_wp2_with fail
                  go_roundw
                  case rel => exact ⟨1, M', by omega, by first | rfl | go_num, HMN.out, by omega, OwnI.drewN HM3.out _, OwnI.drewN HO3.out _, below_drewN HB3.out _⟩
                  case measure => first | (simp [intOf]; done) | (simp [intOf]; omega)
              · clear hbb hb2
                by_cases hy : 0 ≤ y1
                · have HMN : Hid (putF y1 M' = putN g z 2 M) := by
                    show _ = _
                    rw [putN, ← hM'.out]
                    unfold putB
                    rw [E1.out, if_pos hy]
                  have HPL : Hid ((putF y1 M').length ≤ M'.length + 1) := putF_len _ _
                  have HPU : Hid (∀ W v, Rd W v M' → Calls Try.prog 72 #[v, .int .i64 y1] W fun e w' => ∃ u, e = .returned u ∧ Own w' W.heap.size u (putF y1 M') ∧ Below W.heap.size W w') := by
                    show ∀ W v, _
                    exact fun W v hr => l00Put_any W v M' y1 hr (by omega)
                  clear hM'
                  go_wp2_with fail
                  go_quiet (fail)
                  go_wp2_with fail
                  have HCX : Hid (∀ q, (wr.drewN q).drew.cell? ⟨b, 0, none⟩ = some (.slice (some ⟨b1, o1, none⟩) n c) ∧ (wr.drewN q).drew.cell? ⟨b1, o1 + zz, none⟩ = some (.slice (some ⟨b2, o2, none⟩) 2 c2) ∧ (wr.drewN q).drew.cell? ⟨b2, o2, none⟩ = some (.int .i64 y0) ∧ (wr.drewN q).drew.cell? ⟨b2, o2 + 1, none⟩ = some (.int .i64 y1) ∧ (wr.drewN q).drew.cell? ⟨go, j, none⟩ = some (.int .i64 (zz : Int))) := by
                    show ∀ q, _
                    exact fun q => HCB.out _ (below_drewN HB3.out q).drew (OwnI.dd HO3.out q)
                  go_region_held3 (fun w' => w'.cell? ⟨b, 0, none⟩ = some (.slice (some ⟨b1, o1, none⟩) n c) ∧ w'.cell? ⟨b1, o1 + zz, none⟩ = some (.slice (some ⟨b2, o2, none⟩) 2 c2) ∧ w'.cell? ⟨b2, o2, none⟩ = some (.int .i64 y0) ∧ w'.cell? ⟨b2, o2 + 1, none⟩ = some (.int .i64 y1) ∧ w'.cell? ⟨go, j, none⟩ = some (.int .i64 (zz : Int))) ((first | with_reducible exact HCB.out _ B7.out O7.out | with_reducible exact HCX.out _ | fail))
                    (first
                      | (go_at_call 72; refine (HPU.out _ _ (OwnI.dd HM3.out _).rd).mono ?_; rintro e u7 ⟨v7, rfl, ho7, hb7⟩; have B7 := Lib.hid ((below_drewN HB3.out _).drew.trans (hb7.mono (below_drewN HB3.out _).drew.size)); have O7 := Lib.hid (Own.keep (OwnI.dd HO3.out _) hb7); have M7 := Lib.hid (Own.base ho7 (below_drewN HB3.out _).drew.size); clear ho7 hb7)
                      | fail)
                  all_goals go_wp2_with fail
                  all_goals go_roundw
                  case rel => exact ⟨2, putF y1 M', by omega, by first | rfl | go_num, HMN.out, by have := HPL.out; omega, M7.out, O7.out, B7.out⟩
                  case measure => first | (simp [intOf]; done) | (simp [intOf]; omega)
                · have HMN : Hid (M' = putN g z 2 M) := by
                    show _ = _
                    rw [putN, ← hM'.out]
                    unfold putB
                    rw [E1.out, if_neg hy]
                  clear hM'
                  go_wp2_with fail
                  go_quiet (fail)
                  go_wp2_with fail
                  go_roundw
                  case rel => exact ⟨2, M', by omega, by first | rfl | go_num, HMN.out, by omega, OwnI.drewN HM3.out _, OwnI.drewN HO3.out _, below_drewN HB3.out _⟩
                  case measure => first | (simp [intOf]; done) | (simp [intOf]; omega)
        · obtain rfl : j = L.length := by omega
          have HF : Hid (M = reachM g x (k + 1)) := by
            show _ = _
            rw [hM.out, List.take_length]
            show roundM g L = roundM g (reachM g x k)
            rw [hL.out]
          have hlt2 : ¬ ((L.length : Nat) : Int) < (L.length : Int) := by omega
          go_wp2_with fail
          go_roundw
          case rel => exact ⟨k + 1, M, by omega, by go_num, HF.out, HM.out, HB.out⟩
          case measure => first | (simp [intOf]; done) | (simp [intOf]; omega)
    · obtain rfl : k = n := by omega
      have hlt' : ¬ (k : Int) < (k : Int) := by omega
      go_wp2_with fail
      go_ret
      exact ⟨_, rfl, by rw [← hL.out]; exact HO.out, HB.out⟩
end Go.Proofs.Ytllkojakeoennab
