/- The program's TokenRounds. -/
import Derived.Test.YtjhgkkecconcaabTkI
import Derived.Lib.MinMax
namespace Go.Proofs.Ytjhgkkecconcaab
open Go Go.RowKit
set_option linter.unusedVariables false

theorem turn_mod {n r k : Nat} (h : k < n) : (r * n + k) % n = k := by
  rw [Nat.add_comm, Nat.add_mul_mod_self_right, Nat.mod_eq_of_lt h]
/-- One turn of the program. -/
theorem tk_turnI {l : List Int} {hd g : Int} (h : tkOkS l hd g) (j : Nat) (x : Int) (hx : x = (tkS l hd g j).left.getD (j % l.length) 0) :
    (0 < x → (tkS l hd g (j + 1)).left = (tkS l hd g j).left.set (j % l.length) (x - min x hd) ∧ (tkS l hd g (j + 1)).time = (tkS l hd g j).time + min x hd + g ∧ (tkS l hd g (j + 1)).done = (tkS l hd g j).done.set (j % l.length) ((tkS l hd g j).time + min x hd)) ∧
    (¬ 0 < x → (tkS l hd g (j + 1)).left = (tkS l hd g j).left ∧ (tkS l hd g (j + 1)).time = (tkS l hd g j).time + g ∧ (tkS l hd g (j + 1)).done = (tkS l hd g j).done) := by
  have hI := tkI_all h j
  have hm := Nat.mod_lt j (show 0 < l.length by have := h.1; omega)
  have h0 := (tk_nn h j x (by rw [hx, getD_at (by rw [hI.len]; exact hm)]; exact List.getElem_mem _)).1
  have hh := h.2.2.2.1
  constructor
  · intro hp
    rw [tkS_succ]
    unfold tkN
    rw [← hx, if_pos hp]
    exact ⟨rfl, rfl, rfl⟩
  · intro hp
    rw [tkS_succ]
    unfold tkN
    rw [← hx, if_neg hp]
    have e : x = 0 := by omega
    have e2 : min x hd = 0 := by omega
    refine ⟨?_, by dsimp only; rw [e2]; omega, rfl⟩
    dsimp only
    rw [e2, Int.sub_zero]
    have hml : j % l.length < (tkS l hd g j).left.length := by rw [hI.len]; exact hm
    rw [hx, getD_at hml]
    exact List.set_getElem_self hml
set_option maxRecDepth 100000 in
set_option maxHeartbeats 2000000 in
theorem token_impl (w : World) (v : Value) (l : List Int) (hd g : Int) (h : Rd w v l) :
    Calls Try.prog 22 #[v, .int .i64 hd, .int .i64 g] w fun e w' => ∃ u, e = .returned (.tuple #[u, .int .i64 (tkT l hd g), .bool (tkOk l hd g)]) ∧ Own w' w.heap.size u (tkV l hd g) ∧ Below w.heap.size w w' := by
  have HT0 := Lib.hid (areNeeds_any w v l h)
  have HT1 := Lib.hid (rg_is hd 1 1000 w)
  have HT2 := Lib.hid (rg_is g 0 1000 w)
  cases g0 : ndB l
  · obtain ⟨e1, e2, e3⟩ := tkOk_no (l := l) (hd := hd) (g := g) (.inl g0); rw [e1, e2, e3]; clear e1 e2 e3
    rw [g0] at HT0
    clear g0 HT1 HT2
    go_enter Try.func22, Try.ntmps22
    go_wp2_with fail
    refine HT0.out.mono ?_; rintro e w' ⟨rfl, rfl⟩
    go_wp2_with fail
    go_ret3
    exact ⟨_, rfl, World.ownsRow_nil _ _ _ _, Below.refl _ _⟩
  cases g1 : rgB 1 1000 hd
  · obtain ⟨e1, e2, e3⟩ := tkOk_no (l := l) (hd := hd) (g := g) (.inr (.inl g1)); rw [e1, e2, e3]; clear e1 e2 e3
    rw [g0] at HT0
    rw [g1] at HT1
    clear g0 g1 HT2
    go_enter Try.func22, Try.ntmps22
    go_wp2_with fail
    refine HT0.out.mono ?_; rintro e w' ⟨rfl, rfl⟩
    go_wp2_with fail
    refine HT1.out.mono ?_; rintro e w' ⟨rfl, rfl⟩
    go_wp2_with fail
    go_ret3
    exact ⟨_, rfl, World.ownsRow_nil _ _ _ _, Below.refl _ _⟩
  cases g2 : rgB 0 1000 g
  · obtain ⟨e1, e2, e3⟩ := tkOk_no (l := l) (hd := hd) (g := g) (.inr (.inr g2)); rw [e1, e2, e3]; clear e1 e2 e3
    rw [g0] at HT0
    rw [g1] at HT1
    rw [g2] at HT2
    clear g0 g1 g2
    go_enter Try.func22, Try.ntmps22
    go_wp2_with fail
    refine HT0.out.mono ?_; rintro e w' ⟨rfl, rfl⟩
    go_wp2_with fail
    refine HT1.out.mono ?_; rintro e w' ⟨rfl, rfl⟩
    go_wp2_with fail
    refine HT2.out.mono ?_; rintro e w' ⟨rfl, rfl⟩
    go_wp2_with fail
    go_ret3
    exact ⟨_, rfl, World.ownsRow_nil _ _ _ _, Below.refl _ _⟩
  obtain ⟨hok, e1, e2, e3⟩ := tkOk_yes g0 g1 g2
  rw [e1, e2, e3]
  rw [g0] at HT0
  rw [g1] at HT1
  rw [g2] at HT2
  clear e1 e2 e3 g0 g1 g2
  have HOK := Lib.hid hok
  obtain ⟨p1, p2, p3, p4, p5, p6, p7⟩ := hok
  have HH := Lib.hid h
  have HCP := Lib.hid (fun W hW => cloneP_any W v l hW p1 (by omega))
  obtain ⟨b, o, c, rfl, hlt0, hc⟩ := rd_posR h p1
  clear hc p3 h
  have hmk := make_i64 l.length (by omega)
  have HMK := Lib.hid (fun W hW => RowI.made W w.heap.size l.length (by omega) hW)
  go_enter Try.func22, Try.ntmps22
  go_wp2_with fail
  refine HT0.out.mono ?_; rintro e w' ⟨rfl, rfl⟩
  go_wp2_with fail
  refine HT1.out.mono ?_; rintro e w' ⟨rfl, rfl⟩
  go_wp2_with fail
  refine HT2.out.mono ?_; rintro e w' ⟨rfl, rfl⟩
  go_wp2_with fail
  refine (HCP.out _ HH.out).mono ?_; rintro e w1 ⟨u1, rfl, ho1, hb1⟩
  obtain ⟨gl, cl, rfl, hrow⟩ := RowI.of ho1 p1
  have R1 := Lib.hid hrow
  have B1 := Lib.hid hb1
  clear ho1 hrow hb1 HT0 HT1 HT2 HCP HH
  have R2 := Lib.hid (HMK.out w1 B1.out.size)
  have B2 := Lib.hid (B1.out.alloc B1.out.size (.cells (List.replicate l.length (Value.int .i64 0)).toArray 2))
  have R3 := Lib.hid (R1.out.keep ((Below.refl w1.heap.size w1).alloc (Nat.le_refl _) (.cells (List.replicate l.length (Value.int .i64 0)).toArray 2)))
  have HNE : Hid (gl ≠ w1.heap.size) := by show _ ≠ _; have := R1.out.2.2.2; omega
  have HNE2 : Hid (w.heap.size ≤ gl ∧ w.heap.size ≤ w1.heap.size) := ⟨R1.out.2.2.1, B1.out.size⟩
  clear R1 B1 HMK
  go_wp2_with fail
  generalize hgo : w1.heap.size = go at *
  have HGO := Lib.hid hgo
  clear hgo hmk
  go_loopg [11] 1001 (fun m t wr => ∃ r : Nat, m = 1001 - r ∧ r ≤ 1000 ∧ t = .int .i64 (tkS l hd g (r * l.length)).time ∧ RowI wr w.heap.size gl l.length cl (tkS l hd g (r * l.length)).left ∧ RowI wr w.heap.size go l.length l.length (tkS l hd g (r * l.length)).done ∧ Below w.heap.size w wr)
  case atStart => exact ⟨0, rfl, by omega, by simp [tkS, tkI], by simpa [tkS, tkI] using R3.out, by simpa [tkS, tkI] using R2.out, by simpa using B2.out⟩
  case round =>
    obtain ⟨r, rfl, hr, rfl, hr1, hr2, hbb⟩ := hrel
    have RL := Lib.hid hr1
    have RE := Lib.hid hr2
    have BB := Lib.hid hbb
    clear hr1 hr2 hbb R2 R3 B2
    have HJ := Lib.hid (Nat.mul_comm r l.length)
    have hI := tkI_all HOK.out (r * l.length)
    have HMAX := Lib.hid (fun W h => max_any W (.slice (some ⟨gl, 0, none⟩) l.length cl) (tkS l hd g (r * l.length)).left h (by rw [hI.len]; omega))
    clear hI
    go_wp2_with fail
    refine (HMAX.out _ RL.out.rd).mono ?_; rintro e w' ⟨M, rfl, hM, rfl⟩
    by_cases hp : 0 < M
    · have HR : Hid (r < 1000) := by
        show _ < _
        have := tk_max_end HOK.out hM.1 hp
        exact Nat.lt_of_mul_lt_mul_right this
      clear hM HMAX
      go_wp2_with fail
      go_loopw [11, 38] (fun t i wr => ∃ k : Nat, k ≤ l.length ∧ i = .int .i64 k ∧ t = .int .i64 (tkS l hd g (r * l.length + k)).time ∧ RowI wr w.heap.size gl l.length cl (tkS l hd g (r * l.length + k)).left ∧ RowI wr w.heap.size go l.length l.length (tkS l hd g (r * l.length + k)).done ∧ Below w.heap.size w wr) (fun _ i _ => l.length - (intOf i).toNat)
      case atStart => exact ⟨0, Nat.zero_le _, rfl, rfl, RL.out, RE.out, BB.out⟩
      case round =>
        obtain ⟨k, hk, rfl, rfl, hr1, hr2, hbb⟩ := hrel
        clear RL RE BB
        have RL := Lib.hid hr1
        have RE := Lib.hid hr2
        have BB := Lib.hid hbb
        clear hr1 hr2 hbb
        by_cases hlt : k < l.length
        · have hI := tkI_all HOK.out (r * l.length + k)
          have hml : k < (tkS l hd g (r * l.length + k)).left.length := by rw [hI.len]; exact hlt
          have hel : k < (tkS l hd g (r * l.length + k)).done.length := by rw [hI.dlen]; exact hlt
          have hc0 := RL.out.at k hml
          have hce := RE.out.at k hel
          have hf0 := RL.out.fz k
          have hf1 := RE.out.fz k
          obtain ⟨x, hx⟩ : ∃ x, x = (tkS l hd g (r * l.length + k)).left[k]'hml := ⟨_, rfl⟩
          rw [← hx] at hc0
          have hx2 : x = (tkS l hd g (r * l.length + k)).left.getD ((r * l.length + k) % l.length) 0 := by rw [turn_mod hlt, getD_at hml]; exact hx
          have hx3 := tk_nn HOK.out (r * l.length + k) x (by rw [hx]; exact List.getElem_mem _)
          have HN := Lib.hid (tk_turnI HOK.out (r * l.length + k) x hx2)
          rw [turn_mod hlt] at HN
          have ht := hI.time
          have HTB : Hid ((tkS l hd g (r * l.length + k)).time ≤ 40000000) := by
            show _ ≤ _
            have h1 : r * l.length ≤ 1000 * l.length := Nat.mul_le_mul_right _ hr
            omega
          have hT := HTB.out
          have hT0 := ht.1
          have HL1 := Lib.hid (fun z => RL.out.set k z)
          have HE1 := Lib.hid (fun z => RE.out.far RL.out (Ne.symm HNE.out) k z)
          have hk0 : (0 : Int) ≤ (k : Int) := by omega
          have hk1 : (k : Int) < (l.length : Int) := by omega
          have HK := Lib.hid hlt
          have HEL := Lib.hid hel
          clear hx hx2 hI hml ht
          generalize hjj : r * l.length + k = j at *
          have HJJ : Hid (r * l.length + (k + 1) = j + 1) := by show _ = _; omega
          clear hjj
          generalize (tkS l hd g j).left = L at *
          generalize hD : (tkS l hd g j).done = D at *
          clear hD
          generalize (tkS l hd g j).time = T at *
          generalize D[k]'hel = y at *
          by_cases c0 : 0 < x
          · obtain ⟨N, hN⟩ : ∃ N, N = min x hd := ⟨_, rfl⟩
            have HB : Hid (0 ≤ N ∧ N ≤ x ∧ N ≤ hd) := by show _ ∧ _; omega
            obtain ⟨n1, n2, n3⟩ := HN.out.1 c0
            rw [← hN] at n1 n2 n3
            have N1 := Lib.hid n1
            have N2 := Lib.hid n2
            have N3 := Lib.hid n3
            obtain ⟨m0, m1, m2⟩ := HB.out
            have hmn := hN.symm
            clear n1 n2 n3 hN HN
            have R2 := Lib.hid (HL1.out (x - N))
            have E2 := Lib.hid (HE1.out (x - N))
            have q1 := E2.out.fz k
            have q4 := E2.out.at k HEL.out
            have E3 := Lib.hid (E2.out.set k (T + N))
            have R3 := Lib.hid (R2.out.far E2.out HNE.out k (T + N))
            have B1 := Lib.hid (BB.out.setCell (p := ⟨gl, k, none⟩) HNE2.out.1 (.int .i64 (x - N)))
            have B2 := Lib.hid (B1.out.setCell (p := ⟨go, k, none⟩) HNE2.out.2 (.int .i64 (T + N)))
            generalize D[k]'HEL.out = y2 at *
            have w1 : IntKind.i64.wrap (T + N) = T + N := IntWalk.i64_in _ (by omega)
            have w2 : IntKind.i64.wrap (x - N) = x - N := IntWalk.i64_in _ (by omega)
            have w4 : IntKind.i64.wrap (T + N + g) = T + N + g := IntWalk.i64_in _ (by omega)
            clear HL1 HE1
            go_wp2_with fail
            go_roundw
            case rel => exact ⟨k + 1, HK.out, by go_num, by rw [HJJ.out, N2.out], by rw [HJJ.out, N1.out]; exact R3.out, by rw [HJJ.out, N3.out]; exact E3.out, B2.out⟩
            case measure => simp [intOf]; have := HK.out; omega
          · obtain ⟨n1, n2, n3⟩ := HN.out.2 c0
            have N1 := Lib.hid n1
            have N2 := Lib.hid n2
            have N3 := Lib.hid n3
            have w4 : IntKind.i64.wrap (T + g) = T + g := IntWalk.i64_in _ (by omega)
            clear n1 n2 n3 HN HL1 HE1
            go_wp2_with fail
            go_roundw
            case rel => exact ⟨k + 1, HK.out, by go_num, by rw [HJJ.out, N2.out], by rw [HJJ.out, N1.out]; exact RL.out, by rw [HJJ.out, N3.out]; exact RE.out, BB.out⟩
            case measure => simp [intOf]; have := HK.out; omega
        · obtain rfl : k = l.length := by omega
          have HJ2 : Hid (r * l.length + l.length = (r + 1) * l.length) := by show _ = _; rw [Nat.add_mul, Nat.one_mul]
          go_wp2_with fail
          go_roundg (1001 - (r + 1))
          case measure => have := HR.out; omega
          case rel => exact ⟨r + 1, rfl, HR.out, by rw [HJ2.out], by rw [← HJ2.out]; exact RL.out, by rw [← HJ2.out]; exact RE.out, BB.out⟩
    · have hz := tk_max_zero HOK.out hM.2 hp
      have hD := tkZ_done HOK.out hz
      have HX : Hid (Own wr w.heap.size (.slice (some ⟨go, 0, none⟩) l.length l.length) (tkV0 l hd g)) := by show Own _ _ _ _; rw [← hD]; exact RE.out.own
      have HV := Lib.hid (fun W h => max_any W (.slice (some ⟨go, 0, none⟩) l.length l.length) (tkV0 l hd g) h (by rw [(tkV0_nn HOK.out).1]; omega))
      have HMX := Lib.hid (fun M h1 h2 => tk_max HOK.out (M := M) h1 h2)
      clear hz hD hM HMAX RL RE
      go_wp2_with fail
      refine (HV.out _ HX.out.rd).mono ?_; rintro e w' ⟨M2, rfl, hM2, rfl⟩
      have HM3 := Lib.hid (HMX.out M2 hM2.1 hM2.2)
      clear hM2
      go_wp2_with fail
      go_ret3
      exact ⟨_, ret_vibT rfl HM3.out.symm rfl, HX.out, BB.out⟩
end Go.Proofs.Ytjhgkkecconcaab
