/- The model's TokenRounds. -/
import Derived.Test.YtjhgkkecconcaabRvP
import Derived.Test.YtjhgkkecconcaabNdI
import Derived.Test.YtjhgkkecconcaabMki
import Derived.Test.YtjhgkkecconcaabRoI
import Derived.Deep.LoopGhost
import Derived.OwnWalk
namespace Go.Proofs.Ytjhgkkecconcaab
open Go Go.RowKit
set_option linter.unusedVariables false

theorem ret_vibT {v u : Value} {x y : Int} {c d : Bool} (h : v = u) (h1 : x = y) (h2 : c = d) : Ending.returned (.tuple #[v, .int .i64 x, .bool c]) = .returned (.tuple #[u, .int .i64 y, .bool d]) := by rw [h, h1, h2]
theorem l00MinT_any (a b : Int) (w : World) :
    Calls Try.prog 68 #[.int .i64 a, .int .i64 b] w fun e w' => e = .returned (.int .i64 (min b a)) ∧ w = w' := by
  by_cases h : a < b
  · have HE : Hid (min b a = a) := by show _ = _; omega
    go_enter Try.func68, Try.ntmps68
    go_wp2_with fail
    go_ret
    exact ⟨ret_int HE.out.symm, rfl⟩
  · have HE : Hid (min b a = b) := by show _ = _; omega
    go_enter Try.func68, Try.ntmps68
    go_wp2_with fail
    go_ret
    exact ⟨ret_int HE.out.symm, rfl⟩
theorem sum_take {l : List Int} {k : Nat} (h : k < l.length) : (l.take (k + 1)).sum = (l.take k).sum + l[k] := by
  rw [List.take_succ_eq_append_getElem h, sum_snoc]
theorem sum_take_bd {l : List Int} (h : ∀ x ∈ l, 0 ≤ x ∧ x ≤ 1000) (h2 : l.length ≤ 12) (k : Nat) : 0 ≤ (l.take k).sum ∧ (l.take k).sum ≤ 12000 := by
  have h1 := sum_nn (l := l.take k) fun x hx => (h x (List.mem_of_mem_take hx)).1
  have h3 := sum_bd (l := l.take k) (c := 1000) (by decide) fun x hx => (h x (List.mem_of_mem_take hx)).2
  have h4 := List.length_take_le' k l
  exact ⟨h1.1, by omega⟩
/-- One turn of the model. -/
theorem tk_turn {l : List Int} {hd g : Int} (h : tkOkS l hd g) (j : Nat) (x : Int) (hx : x = (tkS l hd g j).left.getD (j % l.length) 0) :
    (tkS l hd g (j + 1)).left = (tkS l hd g j).left.set (j % l.length) (x - min x hd) ∧ (tkS l hd g (j + 1)).time = (tkS l hd g j).time + min x hd + g ∧
    (tkS l hd g (j + 1)).left.sum = (tkS l hd g j).left.sum - min x hd ∧
    tkE l hd g (j + 1) = (if 0 < min x hd ∧ x - min x hd = 0 then ((tkE l hd g j).1.set (j % l.length) ((tkS l hd g j).time + min x hd), (tkS l hd g j).time + min x hd) else tkE l hd g j) := by
  subst hx
  exact ⟨rfl, rfl, tk_sum_next h j, rfl⟩
set_option maxRecDepth 100000 in
set_option maxHeartbeats 2000000 in
theorem token_spec (w : World) (v : Value) (l : List Int) (hd g : Int) (h : Rd w v l) :
    Calls Try.prog 21 #[v, .int .i64 hd, .int .i64 g] w fun e w' => ∃ u, e = .returned (.tuple #[u, .int .i64 (tkT l hd g), .bool (tkOk l hd g)]) ∧ Own w' w.heap.size u (tkV l hd g) ∧ Below w.heap.size w w' := by
  have HT0 := Lib.hid (l09Needs_any w v l h)
  have HT1 := Lib.hid (rg_in hd 1 1000 w)
  have HT2 := Lib.hid (rg_in g 0 1000 w)
  cases g0 : ndB l
  · obtain ⟨e1, e2, e3⟩ := tkOk_no (l := l) (hd := hd) (g := g) (.inl g0); rw [e1, e2, e3]; clear e1 e2 e3
    rw [g0] at HT0
    clear g0 HT1 HT2
    go_enter Try.func21, Try.ntmps21
    go_wp2_with fail
    refine HT0.out.mono ?_; rintro e w' ⟨rfl, rfl⟩
    go_wp2_with fail
    go_ret3
    exact ⟨_, rfl, World.ownsRow_nil _ _ _ _, Below.refl _ _⟩
  cases g1 : rgB 1 1000 hd
  · obtain ⟨e1, e2, e3⟩ := tkOk_no (l := l) (hd := hd) (g := g) (.inr (.inl g1)); rw [e1, e2, e3]; clear e1 e2 e3
    rw [g0] at HT0
    rw [g1] at HT1
    clear g0 g1 HT2
    go_enter Try.func21, Try.ntmps21
    go_wp2_with fail
    refine HT0.out.mono ?_; rintro e w' ⟨rfl, rfl⟩
    go_wp2_with fail
    refine HT1.out.mono ?_; rintro e w' ⟨rfl, rfl⟩
    go_wp2_with fail
    go_ret3
    exact ⟨_, rfl, World.ownsRow_nil _ _ _ _, Below.refl _ _⟩
  cases g2 : rgB 0 1000 g
  · obtain ⟨e1, e2, e3⟩ := tkOk_no (l := l) (hd := hd) (g := g) (.inr (.inr g2)); rw [e1, e2, e3]; clear e1 e2 e3
    rw [g0] at HT0
    rw [g1] at HT1
    rw [g2] at HT2
    clear g0 g1 g2
    go_enter Try.func21, Try.ntmps21
    go_wp2_with fail
    refine HT0.out.mono ?_; rintro e w' ⟨rfl, rfl⟩
    go_wp2_with fail
    refine HT1.out.mono ?_; rintro e w' ⟨rfl, rfl⟩
    go_wp2_with fail
    refine HT2.out.mono ?_; rintro e w' ⟨rfl, rfl⟩
    go_wp2_with fail
    go_ret3
    exact ⟨_, rfl, World.ownsRow_nil _ _ _ _, Below.refl _ _⟩
  obtain ⟨hok, e1, e2, e3⟩ := tkOk_yes g0 g1 g2
  rw [e1, e2, e3]
  rw [g0] at HT0
  rw [g1] at HT1
  rw [g2] at HT2
  clear e1 e2 e3 g0 g1 g2
  have HOK := Lib.hid hok
  obtain ⟨p1, p2, p3, p4, p5, p6, p7⟩ := hok
  have HND := Lib.hid p3
  have HSB := Lib.hid (sum_take_bd p3 p2)
  have HH := Lib.hid h
  have HCP := Lib.hid (fun W hW => ownP_any W v l hW p1 (by omega))
  obtain ⟨b, o, c, rfl, hlt0, hc⟩ := rd_posR h p1
  have HC := Lib.hid hc
  clear hc p3 h
  have hmk := make_i64 l.length (by omega)
  have HMK := Lib.hid (fun W hW => RowI.made W w.heap.size l.length (by omega) hW)
  go_enter Try.func21, Try.ntmps21
  go_wp2_with fail
  refine HT0.out.mono ?_; rintro e w' ⟨rfl, rfl⟩
  go_wp2_with fail
  refine HT1.out.mono ?_; rintro e w' ⟨rfl, rfl⟩
  go_wp2_with fail
  refine HT2.out.mono ?_; rintro e w' ⟨rfl, rfl⟩
  go_wp2_with fail
  refine (HCP.out _ HH.out).mono ?_; rintro e w1 ⟨u1, rfl, ho1, hb1⟩
  obtain ⟨gl, cl, rfl, hrow⟩ := RowI.of ho1 p1
  have R1 := Lib.hid hrow
  have B1 := Lib.hid hb1
  clear ho1 hrow hb1 HT0 HT1 HT2 HCP
  have R2 := Lib.hid (HMK.out w1 B1.out.size)
  have B2 := Lib.hid (B1.out.alloc B1.out.size (.cells (List.replicate l.length (Value.int .i64 0)).toArray 2))
  have R3 := Lib.hid (R1.out.keep ((Below.refl w1.heap.size w1).alloc (Nat.le_refl _) (.cells (List.replicate l.length (Value.int .i64 0)).toArray 2)))
  have HNE : Hid (gl ≠ w1.heap.size) := by show _ ≠ _; have := R1.out.2.2.2; omega
  have HNE2 : Hid (w.heap.size ≤ gl ∧ w.heap.size ≤ w1.heap.size) := ⟨R1.out.2.2.1, B1.out.size⟩
  go_wp2_with fail
  obtain ⟨W2, hW2⟩ : ∃ W2, W2 = w1.alloc (.cells (List.replicate l.length (Value.int .i64 0)).toArray 2) := ⟨_, rfl⟩
  rw [← hW2] at R2 R3 B2
  have HW2 := Lib.hid hW2
  clear hW2 hmk HMK R1 B1
  generalize hgo : w1.heap.size = go at *
  have HGO := Lib.hid hgo
  clear hgo
  go_loopw [11, 12] (fun s i wr => ∃ k q : Nat, k ≤ l.length ∧ i = .int .i64 k ∧ s = .int .i64 (l.take k).sum ∧ wr = W2.drewN q) (fun _ i _ => l.length - (intOf i).toNat)
  case atStart => exact ⟨0, 0, Nat.zero_le _, rfl, rfl, by rw [HW2.out]; first | rfl | (simp; done) | (simp; rfl)⟩
  case round =>
    obtain ⟨k, q, hk, rfl, rfl, rfl⟩ := hrel
    by_cases hlt : k < l.length
    · have hc0 := (B2.out.cell (p := ⟨b, o + k, none⟩) hlt0).trans (HC.out k hlt)
      have hx := HND.out l[k] (List.getElem_mem hlt)
      have HS := Lib.hid (sum_take hlt)
      obtain ⟨s1, s2⟩ := HSB.out k
      have hk0 : (0 : Int) ≤ (k : Int) := by omega
      have hk1 : (k : Int) < (l.length : Int) := by omega
      generalize l[k] = x at *
      generalize (l.take k).sum = S at *
      have w1 : IntKind.i64.wrap (S + x) = S + x := IntWalk.i64_in _ (by omega)
      go_wp2_with fail
      first | go_roundw | (go_quiet (fail); go_wp2_with fail; go_roundw)
      case rel => exact ⟨k + 1, _, by omega, by go_num, by rw [HS.out], rfl⟩
      case measure => simp [intOf]; omega
    · obtain rfl : k = l.length := by omega
      have e0 : (l.take l.length).sum = (tkS l hd g 0).left.sum := by rw [List.take_length]; rfl
      rw [e0]
      have R4 := Lib.hid (R3.out.drewN q)
      have R5 := Lib.hid (R2.out.drewN q)
      have B4 := Lib.hid (below_drewN B2.out q)
      clear e0 R2 R3 B2 hlt hk HND HSB HH HC
      generalize W2.drewN q = W3 at *
      go_wp2_with fail
      go_loopg [11, 13, 14, 15] 12000 (fun n s t la i wr => ∃ j : Nat, n = 12000 - j ∧ j ≤ 1000 * l.length ∧ i = .int .i64 ((j % l.length : Nat) : Int) ∧ s = .int .i64 (tkS l hd g j).left.sum ∧ t = .int .i64 (tkS l hd g j).time ∧ la = .int .i64 (tkE l hd g j).2 ∧ RowI wr w.heap.size gl l.length cl (tkS l hd g j).left ∧ RowI wr w.heap.size go l.length l.length (tkE l hd g j).1 ∧ Below w.heap.size w wr)
      case atStart => exact ⟨0, rfl, Nat.zero_le _, by simp, rfl, rfl, rfl, R4.out, R5.out, B4.out⟩
      case round =>
        obtain ⟨j, rfl, hj, rfl, rfl, rfl, rfl, hr1, hr2, hbb⟩ := hrel
        have RL := Lib.hid hr1
        have RE := Lib.hid hr2
        have BB := Lib.hid hbb
        clear hr1 hr2 hbb R4 R5 B4
        by_cases hp : 0 < (tkS l hd g j).left.sum
        · have hlt := tk_sum_end HOK.out hp
          have hm := Nat.mod_lt j (show 0 < l.length by omega)
          have hI := tkI_all HOK.out j
          have hJ := tkJ_all HOK.out j
          have hml : j % l.length < (tkS l hd g j).left.length := by rw [hI.len]; exact hm
          have hc0 := RL.out.at (j % l.length) hml
          obtain ⟨x, hx⟩ : ∃ x, x = (tkS l hd g j).left[j % l.length]'hml := ⟨_, rfl⟩
          rw [← hx] at hc0
          have hx2 : x = (tkS l hd g j).left.getD (j % l.length) 0 := by rw [getD_at hml]; exact hx
          have hx3 := tk_nn HOK.out j x (by rw [hx]; exact List.getElem_mem _)
          obtain ⟨n1, n2, n3, n4⟩ := tk_turn HOK.out j x hx2
          have N1 := Lib.hid n1
          have N2 := Lib.hid n2
          have N3 := Lib.hid n3
          have N4 := Lib.hid n4
          have hs := tk_sum_bd HOK.out j
          have ht := hI.time
          have hla := hJ.time
          have HMS : Hid ((((j % l.length : Nat) : Int) + 1) % (l.length : Int) = (((j + 1) % l.length : Nat) : Int)) := by
            show _ = _
            rw [mod_succ l.length j (by omega)]
            split
            · rename_i e; rw [show ((j % l.length : Nat) : Int) + 1 = (l.length : Int) by omega, Int.emod_self]; rfl
            · rw [Int.emod_eq_of_lt (by omega) (by omega)]; omega
          have hf0 := RL.out.fz (j % l.length)
          have hf1 := RE.out.fz (j % l.length)
          have hel : j % l.length < (tkE l hd g j).1.length := by rw [hJ.len]; exact hm
          have hce := RE.out.at (j % l.length) hel
          generalize (tkE l hd g j).1[j % l.length]'hel = y at *
          have hnle : l.length ≤ 12 := p2
          have HTB : Hid ((tkS l hd g j).time ≤ 24000000) := by show _ ≤ _; have := hI.time; omega
          have R1 := Lib.hid (fun z => RL.out.set (j % l.length) z)
          have E1 := Lib.hid (fun z => RE.out.far RL.out (Ne.symm HNE.out) (j % l.length) z)
          have HLL : Hid (∀ z, j % l.length < ((tkS l hd g j).left.set (j % l.length) z).length ∧ ((tkS l hd g j).left.set (j % l.length) z).getD (j % l.length) 0 = z) := by
            show ∀ z, _
            intro z
            refine ⟨by rw [List.length_set]; exact hml, ?_⟩
            rw [getD_set _ _ _ _ hml hml, if_pos rfl]
          obtain ⟨N, hN⟩ : ∃ N, N = min x hd := ⟨_, rfl⟩
          have HN : Hid (0 ≤ N ∧ N ≤ x ∧ N ≤ hd) := by show _ ∧ _; omega
          rw [← hN] at N1 N2 N3 N4
          have hsn : 0 ≤ (tkS l hd g j).left.sum - N := by have := tk_sum_bd HOK.out (j + 1); have := N3.out; omega
          have HMIN := Lib.hid (fun W => l00MinT_any hd x W)
          rw [← hN] at HMIN
          clear hx hx2 n1 n2 n3 n4 hI hJ hN
          have hm0 : (0 : Int) ≤ ((j % l.length : Nat) : Int) := by omega
          have hm1 : ((j % l.length : Nat) : Int) < (l.length : Int) := by omega
          have hl0 : ((l.length : Int) == 0) = false := by rw [beq_eq_false_iff_ne]; omega
          have hlN : ((l.length : Int) = 0) = False := eq_false (by omega)
          have HJ1 := Lib.hid hj
          have HJ2 := Lib.hid hlt
          have HP := Lib.hid hp
          obtain ⟨t0, t1⟩ := ht
          obtain ⟨s0, s1⟩ := hs
          have HTB' := HTB.out
          obtain ⟨m0, m1, m2⟩ := HN.out
          obtain ⟨x0, x1⟩ := hx3
          clear hj hlt hla
          generalize (tkS l hd g j).left = L at *
          generalize tkE l hd g j = E at *
          generalize (tkS l hd g j).time = T at *
          generalize L.sum = S at *
          generalize hi : j % l.length = i at *
          clear hi
          have w2 : IntKind.i64.wrap (x - N) = x - N := IntWalk.i64_in _ (by omega)
          have w3 : IntKind.i64.wrap (S - N) = S - N := IntWalk.i64_in _ (by omega)
          have w1 : IntKind.i64.wrap (T + N) = T + N := IntWalk.i64_in _ (by omega)
          have w4 : IntKind.i64.wrap (T + N + g) = T + N + g := IntWalk.i64_in _ (by omega)
          have HMEA : Hid (12000 - (j + 1) < 12000 - j) := by show _ < _; have := HJ2.out; omega
          by_cases c0 : 0 < N
          · by_cases c1 : x = N
            · rw [if_pos ⟨c0, by rw [c1]; omega⟩] at N4
              have c3 := c1.symm
              subst c3
              rw [Int.sub_self] at N1
              obtain ⟨z0, z1⟩ := HLL.out (0)
              have R2 := Lib.hid (R1.out (0))
              have E2 := Lib.hid (E1.out (0))
              have q0 := R2.out.at i z0
              rw [← getD_at z0, z1] at q0
              have q1 := E2.out.fz i
              have q2 := hf0
              have q3 := hc0
              have q4 := E2.out.at i hel
              have E3 := Lib.hid (E2.out.set i (T + N))
              have R3 := Lib.hid (R2.out.far E2.out HNE.out i (T + N))
              have B1 := Lib.hid (BB.out.setCell (p := ⟨gl, i, none⟩) HNE2.out.1 (.int .i64 (0)))
              have B2 := Lib.hid (B1.out.setCell (p := ⟨go, i, none⟩) HNE2.out.2 (.int .i64 (T + N)))
              generalize E.1[i]'hel = y2 at *
              have GN1 := HMS.out
              have HREL : Hid (∀ wr' : World, RowI wr' w.heap.size gl l.length cl (L.set i (0)) → RowI wr' w.heap.size go l.length l.length (tkE l hd g (j + 1)).1 → Below w.heap.size w wr' →
                  ∃ j', 12000 - (j + 1) = 12000 - j' ∧ j' ≤ 1000 * l.length ∧ Value.int .i64 ((((i : Nat) : Int) + 1) % (l.length : Int)) = .int .i64 ((j' % l.length : Nat) : Int) ∧ Value.int .i64 (S - N) = .int .i64 (tkS l hd g j').left.sum ∧ Value.int .i64 (T + N + g) = .int .i64 (tkS l hd g j').time ∧ Value.int .i64 (tkE l hd g (j + 1)).2 = .int .i64 (tkE l hd g j').2 ∧ RowI wr' w.heap.size gl l.length cl (tkS l hd g j').left ∧ RowI wr' w.heap.size go l.length l.length (tkE l hd g j').1 ∧ Below w.heap.size w wr') := by
                show ∀ _, _
                intro wr' h1 h2 h3
                exact ⟨j + 1, rfl, by have := HJ2.out; omega, by rw [GN1], by rw [N3.out], by rw [N2.out], rfl, by rw [N1.out]; exact h1, h2, h3⟩
              clear R1 E1 RL RE z0 z1 HLL hel hml HNE2 HMS GN1 N1 N2 N3
              rw [N4.out] at HREL
              clear N4
              go_wp2_with fail
              refine (HMIN.out _).mono ?_; rintro e w' ⟨rfl, rfl⟩
              go_wp2_with fail
              go_roundg (12000 - (j + 1))
              case measure => exact HMEA.out
              case rel => exact HREL.out _ R3.out E3.out B2.out
            · rw [if_neg (fun h => c1 (by omega))] at N4
              have c2 : ¬ x - N = 0 := fun h => c1 (by omega)
              obtain ⟨z0, z1⟩ := HLL.out (x - N)
              have R2 := Lib.hid (R1.out (x - N))
              have E2 := Lib.hid (E1.out (x - N))
              have q0 := R2.out.at i z0
              rw [← getD_at z0, z1] at q0
              have q1 := E2.out.fz i
              have q2 := hf0
              have q3 := hc0
              have q4 := E2.out.at i hel
              have E3 := Lib.hid (E2.out.set i (T + N))
              have R3 := Lib.hid (R2.out.far E2.out HNE.out i (T + N))
              have B1 := Lib.hid (BB.out.setCell (p := ⟨gl, i, none⟩) HNE2.out.1 (.int .i64 (x - N)))
              have B2 := Lib.hid (B1.out.setCell (p := ⟨go, i, none⟩) HNE2.out.2 (.int .i64 (T + N)))
              generalize E.1[i]'hel = y2 at *
              have GN1 := HMS.out
              have HREL : Hid (∀ wr' : World, RowI wr' w.heap.size gl l.length cl (L.set i (x - N)) → RowI wr' w.heap.size go l.length l.length (tkE l hd g (j + 1)).1 → Below w.heap.size w wr' →
                  ∃ j', 12000 - (j + 1) = 12000 - j' ∧ j' ≤ 1000 * l.length ∧ Value.int .i64 ((((i : Nat) : Int) + 1) % (l.length : Int)) = .int .i64 ((j' % l.length : Nat) : Int) ∧ Value.int .i64 (S - N) = .int .i64 (tkS l hd g j').left.sum ∧ Value.int .i64 (T + N + g) = .int .i64 (tkS l hd g j').time ∧ Value.int .i64 (tkE l hd g (j + 1)).2 = .int .i64 (tkE l hd g j').2 ∧ RowI wr' w.heap.size gl l.length cl (tkS l hd g j').left ∧ RowI wr' w.heap.size go l.length l.length (tkE l hd g j').1 ∧ Below w.heap.size w wr') := by
                show ∀ _, _
                intro wr' h1 h2 h3
                exact ⟨j + 1, rfl, by have := HJ2.out; omega, by rw [GN1], by rw [N3.out], by rw [N2.out], rfl, by rw [N1.out]; exact h1, h2, h3⟩
              clear R1 E1 RL RE z0 z1 HLL hel hml HNE2 HMS GN1 N1 N2 N3
              rw [N4.out] at HREL
              clear N4
              go_wp2_with fail
              refine (HMIN.out _).mono ?_; rintro e w' ⟨rfl, rfl⟩
              go_wp2_with fail
              go_roundg (12000 - (j + 1))
              case measure => exact HMEA.out
              case rel => exact HREL.out _ R2.out E2.out B1.out
          · rw [if_neg (fun h => c0 h.1)] at N4
            obtain ⟨z0, z1⟩ := HLL.out (x - N)
            have R2 := Lib.hid (R1.out (x - N))
            have E2 := Lib.hid (E1.out (x - N))
            have q0 := R2.out.at i z0
            rw [← getD_at z0, z1] at q0
            have q1 := E2.out.fz i
            have q2 := hf0
            have q3 := hc0
            have q4 := E2.out.at i hel
            have E3 := Lib.hid (E2.out.set i (T + N))
            have R3 := Lib.hid (R2.out.far E2.out HNE.out i (T + N))
            have B1 := Lib.hid (BB.out.setCell (p := ⟨gl, i, none⟩) HNE2.out.1 (.int .i64 (x - N)))
            have B2 := Lib.hid (B1.out.setCell (p := ⟨go, i, none⟩) HNE2.out.2 (.int .i64 (T + N)))
            generalize E.1[i]'hel = y2 at *
            have GN1 := HMS.out
            have HREL : Hid (∀ wr' : World, RowI wr' w.heap.size gl l.length cl (L.set i (x - N)) → RowI wr' w.heap.size go l.length l.length (tkE l hd g (j + 1)).1 → Below w.heap.size w wr' →
                ∃ j', 12000 - (j + 1) = 12000 - j' ∧ j' ≤ 1000 * l.length ∧ Value.int .i64 ((((i : Nat) : Int) + 1) % (l.length : Int)) = .int .i64 ((j' % l.length : Nat) : Int) ∧ Value.int .i64 (S - N) = .int .i64 (tkS l hd g j').left.sum ∧ Value.int .i64 (T + N + g) = .int .i64 (tkS l hd g j').time ∧ Value.int .i64 (tkE l hd g (j + 1)).2 = .int .i64 (tkE l hd g j').2 ∧ RowI wr' w.heap.size gl l.length cl (tkS l hd g j').left ∧ RowI wr' w.heap.size go l.length l.length (tkE l hd g j').1 ∧ Below w.heap.size w wr') := by
              show ∀ _, _
              intro wr' h1 h2 h3
              exact ⟨j + 1, rfl, by have := HJ2.out; omega, by rw [GN1], by rw [N3.out], by rw [N2.out], rfl, by rw [N1.out]; exact h1, h2, h3⟩
            clear R1 E1 RL RE z0 z1 HLL hel hml HNE2 HMS GN1 N1 N2 N3
            rw [N4.out] at HREL
            clear N4
            go_wp2_with fail
            refine (HMIN.out _).mono ?_; rintro e w' ⟨rfl, rfl⟩
            go_wp2_with fail
            go_roundg (12000 - (j + 1))
            case measure => exact HMEA.out
            case rel => exact HREL.out _ R2.out E2.out B1.out
        · have hz := tk_sum_zero HOK.out hp
          obtain ⟨z1, z2⟩ := tkE_end HOK.out hz
          have HX : Hid (Own wr w.heap.size (.slice (some ⟨go, 0, none⟩) l.length l.length) (tkV0 l hd g)) := by show Own _ _ _ _; rw [← z1]; exact RE.out.own
          have HM : Hid ((tkE l hd g j).2 = mxL (tkV0 l hd g)) := z2
          clear z1 z2 hz RL RE
          go_wp2_with fail
          go_ret3
          exact ⟨_, ret_vibT rfl HM.out rfl, HX.out, BB.out⟩
end Go.Proofs.Ytjhgkkecconcaab
