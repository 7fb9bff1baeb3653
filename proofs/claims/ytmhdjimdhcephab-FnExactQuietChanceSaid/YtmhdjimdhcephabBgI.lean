/- The model's great numbers: of small ones, products, and whether they are small. -/
import Derived.Test.YtmhdjimdhcephabBgQ
import Derived.Test.YtmhdjimdhcephabRoI
import Derived.Test.YtmhdjimdhcephabRuns
import Derived.Test.YtmhdjimdhcephabMki
namespace Go.Proofs.Ytmhdjimdhcephab
open Go Go.RowKit
set_option linter.unusedVariables false

set_option maxRecDepth 100000 in
theorem l09Of_any (n : Int) (w : World) (h0 : 0 ≤ n) (h1 : n ≤ 1000000000000000000) :
    Calls Try.prog 85 #[.int .i64 n] w fun e w' => ∃ v, e = .returned v ∧ ∃ L, Own w' w.heap.size v L ∧ (BG L ∧ bv L = n ∧ L.length ≤ 3) ∧ Below w.heap.size w w' := by
  obtain ⟨i0, hi, hz0, hz1, hz2⟩ := info_parts Try.infoInt
  have HZ := Lib.hid (ofI_zero h0)
  have HN := Lib.hid h1
  have hn' : n ≤ 1000000000000000000 := h1
  clear h0 h1
  go_enter Try.func85, Try.ntmps85
  go_wp2_with fail
  go_loopw [0, 3] (fun nv v wr => ∃ (m : Int) (L : List Int), nv = .int .i64 m ∧ m ≤ 1000000000000000000 ∧ OfI n L m ∧ wr.ownsRow w.heap.size 2 1 v L.length (intVals L) ∧ Below w.heap.size w wr) (fun nv _ _ => (intOf nv).toNat)
  case atStart => exact ⟨n, [], rfl, hn', HZ.out, World.ownsRow_made w #[] 0 (Nat.le_refl _) (by decide) rfl, (Below.refl _ _).alloc (Nat.le_refl _) _⟩
  case round =>
    obtain ⟨m, L, rfl, hmb, hof, hown, hb⟩ := hrel
    have HO := Lib.hid hown
    have HB := Lib.hid hb
    have HF := Lib.hid hof
    have m0 := hof.m0
    have hlen := hof.len
    clear hown hb hof HZ hn'
    by_cases hlt : 0 < m
    · have HX := Lib.hid (ofI_next HF.out HN.out hlt)
      have hsz : w.heap.size ≤ wr.heap.size := HB.out.size
      have w1 : IntKind.i64.wrap (m / 1000000000) = m / 1000000000 := IntWalk.i64_in _ (by omega)
      have w2 : IntKind.i64.wrap (m % 1000000000) = m % 1000000000 := IntWalk.i64_in _ (by omega)
      have HQ : Hid (m / 1000000000 ≤ 1000000000000000000 ∧ (m / 1000000000).toNat < m.toNat) := by show _ ∧ _; omega
      obtain ⟨A, vc, rfl⟩ := own_shape HO.out
      go_wp2_with (at_builtin; refine wpList_append_lies _ rfl _ _ 86 rfl w.heap.size 2 i0 (.int .i64 0) 1 8 Try.underlying86 hi hz0 hz1 hz2 rfl (by decide) _ _ _ rfl (HO.out.alloc _) ⟨wr.heap.size, 0, none⟩ 1 1 [.int .i64 (m % 1000000000)] rfl rfl (c1_int _ _ _) (by intro u hu; simp at hu; subst hu; rfl) (by decide) (by unfold maxLen; omega) (by omega) (by simp; omega) (wr.heap.size + 1) (by simp) ?_)
      intro gg cap w2' hown2 hgrow hat hlt2
      have HB2 := Lib.hid (below_cons HB.out HB.out.size HO.out hgrow)
      have HO2 : Hid (w2'.ownsRow w.heap.size 2 1 (.slice (some ⟨gg, 0, none⟩) (L.length + 1) cap) (L ++ [m % 1000000000]).length (intVals (L ++ [m % 1000000000]))) := by
        show World.ownsRow _ _ _ _ _ _ _
        rw [List.length_append, ← intVals_snoc]; exact hown2
      clear hown2 hgrow hat hlt2 HO HB
      go_wp2_with fail
      go_roundw
      case rel => exact ⟨m / 1000000000, L ++ [m % 1000000000], rfl, HQ.out.1, HX.out, HO2.out, HB2.out⟩
      case measure => exact HQ.out.2
    · have HE := Lib.hid (ofI_end HF.out hlt)
      go_wp2_with fail
      go_ret
      exact ⟨_, rfl, L, HO.out, ⟨HE.out.1, HE.out.2, hlen⟩, HB.out⟩

theorem bv_drop (L : List Int) (k : Nat) (h : k < L.length) : bv (L.drop k) = L[k] + 1000000000 * bv (L.drop (k + 1)) := by
  rw [List.drop_eq_getElem_cons h, bv]
theorem bv_drop_le {L : List Int} (h : BD L) : ∀ k, 0 ≤ bv (L.drop k) ∧ bv (L.drop k) ≤ bv L := by
  have hd : ∀ k, BD (L.drop k) := fun k d hd => h d (List.mem_of_mem_drop hd)
  intro k
  induction k with
  | zero => rw [List.drop_zero]; exact ⟨(bv_bd h).1, Int.le_refl _⟩
  | succ k ih =>
    have h1 := (bv_bd (hd (k + 1))).1
    by_cases hk : k < L.length
    · rw [bv_drop L k hk] at ih
      have := h L[k] (List.getElem_mem hk)
      omega
    · rw [List.drop_eq_nil_of_le (show L.length ≤ k + 1 by omega)]
      exact ⟨by simp [bv], by have := (bv_bd h).1; simp [bv]; exact this⟩
def bgS (L : List Int) : Int := if bgT L then 0 else bv L
theorem ret_ibB {x y : Int} {c d : Bool} (h : x = y) (h1 : c = d) : Ending.returned (.tuple #[.int .i64 x, .bool c]) = .returned (.tuple #[.int .i64 y, .bool d]) := by rw [h, h1]
set_option maxRecDepth 100000 in
set_option maxHeartbeats 1000000 in
theorem l09Small_any (w : World) (v : Value) (L : List Int) (h : Rd w v L) (hg : BG L) :
    Calls Try.prog 88 #[v] w fun e w' => e = .returned (.tuple #[.int .i64 (bgS L), .bool (!bgT L)]) ∧ w = w' := by
  have hlen := h.len
  unfold maxLen at hlen
  obtain ⟨A, n, c, rfl, hn, -, -, r⟩ := h
  rw [hn] at hlen
  have HN := Lib.hid hn
  have HR := Lib.hid r
  have HD := Lib.hid (bv_drop_le hg.1)
  have HDG := Lib.hid hg.1
  have HIS := Lib.hid (bgT_is hg)
  by_cases h3 : 3 < n
  · have HT : Hid (bgT L = true) := by show _ = _; unfold bgT; rw [decide_eq_true (by omega : 3 < L.length)]; rfl
    have HS : Hid (bgS L = 0) := by show _ = _; unfold bgS; rw [HT.out]; rfl
    have h3' : (3 : Int) < (n : Int) := by omega
    clear hn r hg h3
    go_enter Try.func88, Try.ntmps88
    go_wp2_with fail
    go_ret2
    exact ⟨ret_ibB HS.out.symm (by rw [HT.out]; rfl), rfl⟩
  · cases hT : bgT L
    · have HS : Hid (bgS L = bv L) := by show _ = _; unfold bgS; rw [hT]; rfl
      have hle : bv L ≤ 1000000000000000000 := by have := HIS.out; rw [hT] at this; have := of_decide_eq_false this.symm; omega
      have hcond : ¬ n = 3 ∨ ∃ b o, A = some ⟨b, o, none⟩ ∧ w.cell? ⟨b, o, none⟩ = some (.int .i64 0) ∧ w.cell? ⟨b, o + 1, none⟩ = some (.int .i64 0) ∧ w.cell? ⟨b, o + 2, none⟩ = some (.int .i64 1) := by
        by_cases e : n = 3
        · right
          obtain ⟨b, o, rfl, -, hc⟩ := r (by omega)
          have c0 := hc 0 (by omega)
          have c1 := hc 1 (by omega)
          have c2 := hc 2 (by omega)
          rw [Nat.add_zero] at c0
          have hl : L.length = 3 := by omega
          have hz := hg.2 (by intro e'; rw [e'] at hl; simp at hl)
          rw [hl, show 3 - 1 = 2 from rfl] at hz
          unfold bgT at hT
          rw [decide_eq_false (by omega : ¬ 3 < L.length), decide_eq_true hl] at hT
          simp only [Bool.false_or, Bool.true_and, Bool.or_eq_false_iff, Bool.and_eq_false_iff, decide_eq_false_iff_not] at hT
          have d0 := hg.1.at 0
          have d1 := hg.1.at 1
          have d2 := hg.1.at 2
          have e2 : L.getD 2 0 = 1 := by omega
          have e3 : ¬ 0 < L.getD 0 0 ∧ ¬ 0 < L.getD 1 0 := by
            rcases hT.2 with h | h
            · exact absurd e2 h
            · exact h
          have e0 : L.getD 0 0 = 0 := by omega
          have e1 : L.getD 1 0 = 0 := by omega
          rw [getD_lt (by omega)] at e0 e1 e2
          rw [e0] at c0; rw [e1] at c1; rw [e2] at c2
          exact ⟨b, o, rfl, c0, c1, c2⟩
        · exact .inl e
      have HTF : Hid (bgT L = false) := hT
      clear hg hT hn r
      have h3' : ¬ (3 : Int) < (n : Int) := by omega
      have HLE := Lib.hid hle
      clear hle
      rcases hcond with he | ⟨b, o, rfl, c0, c1, c2⟩
      · have he' : ¬ (n : Int) = 3 := by omega
        go_enter Try.func88, Try.ntmps88
        go_wp2_with fail
        go_loop [4, 5] (fun nv i => ∃ k : Nat, k ≤ n ∧ i = .int .i64 ((k : Int) - 1) ∧ nv = .int .i64 (bv (L.drop k))) (fun _ i => (intOf i + 1).toNat)
        case atStart => exact ⟨n, Nat.le_refl _, rfl, by rw [List.drop_eq_nil_of_le (by have := HN.out; omega)]; rfl⟩
        case round =>
          obtain ⟨k, hk, rfl, rfl⟩ := hrel
          by_cases h0 : k = 0
          · subst h0
            rw [List.drop_zero]
            have hm : ¬ (0 : Int) ≤ ((0 : Nat) : Int) - 1 := by omega
            go_wp2_with fail
            go_ret2
            exact ⟨ret_ibB HS.out.symm rfl, rfl⟩
          · obtain ⟨k, rfl⟩ : ∃ k', k = k' + 1 := ⟨k - 1, by omega⟩
            have e1 : ((k + 1 : Nat) : Int) - 1 = (k : Int) := by omega
            rw [e1]
            obtain ⟨b2, o2, hA, -, hc2⟩ := HR.out (by omega)
            cases hA
            have hkl : k < L.length := by have := HN.out; omega
            have hc0 := hc2 k hkl
            have HB := Lib.hid (bv_drop L k hkl)
            obtain ⟨q0, q1⟩ := HD.out (k + 1)
            have q2 := (HD.out k).2
            have hx := HDG.out L[k] (List.getElem_mem hkl)
            have hle := HLE.out
            rw [HB.out] at q2
            have hk0 : (0 : Int) ≤ (k : Int) := by omega
            have hk1 : (k : Int) < (n : Int) := by omega
            generalize bv (L.drop (k + 1)) = V at *
            generalize L[k] = x at *
            have w1 : IntKind.i64.wrap (V * 1000000000) = V * 1000000000 := IntWalk.i64_in _ (by omega)
            have w2 : IntKind.i64.wrap (V * 1000000000 + x) = V * 1000000000 + x := IntWalk.i64_in _ (by omega)
            clear hc2 e1 h0
            go_wp2_with fail
            first | go_round | (go_region; go_wp2_with fail; go_round)
            case rel => exact ⟨k, by omega, by go_num, by rw [HB.out]; congr 1 <;> omega⟩
            case measure => first | (simp [intOf]; done) | (simp [intOf]; omega)
      · have c1' : w.cell? ⟨b, 1 + o, none⟩ = some (.int .i64 0) := by rw [Nat.add_comm]; exact c1
        have c2' : w.cell? ⟨b, 2 + o, none⟩ = some (.int .i64 1) := by rw [Nat.add_comm]; exact c2
        by_cases he : n = 3
        · have he1 : (n : Int) = 3 := by omega
          have he2 : (2 : Int) < (n : Int) := by omega
          have he3 : (1 : Int) < (n : Int) := by omega
          have he4 : (0 : Int) < (n : Int) := by omega
          have he5 : ((n : Int) == 3) = true := by rw [beq_iff_eq]; exact he1
          clear he he1
          go_enter Try.func88, Try.ntmps88
          go_wp2_with fail
          go_loop [4, 5] (fun nv i => ∃ k : Nat, k ≤ n ∧ i = .int .i64 ((k : Int) - 1) ∧ nv = .int .i64 (bv (L.drop k))) (fun _ i => (intOf i + 1).toNat)
          case atStart => exact ⟨n, Nat.le_refl _, rfl, by rw [List.drop_eq_nil_of_le (by have := HN.out; omega)]; rfl⟩
          case round =>
            obtain ⟨k, hk, rfl, rfl⟩ := hrel
            by_cases h0 : k = 0
            · subst h0
              rw [List.drop_zero]
              have hm : ¬ (0 : Int) ≤ ((0 : Nat) : Int) - 1 := by omega
              go_wp2_with fail
              go_ret2
              exact ⟨ret_ibB HS.out.symm rfl, rfl⟩
            · obtain ⟨k, rfl⟩ : ∃ k', k = k' + 1 := ⟨k - 1, by omega⟩
              have e1 : ((k + 1 : Nat) : Int) - 1 = (k : Int) := by omega
              rw [e1]
              obtain ⟨b2, o2, hA, -, hc2⟩ := HR.out (by omega)
              cases hA
              have hkl : k < L.length := by have := HN.out; omega
              have hc0 := hc2 k hkl
              have HB := Lib.hid (bv_drop L k hkl)
              obtain ⟨q0, q1⟩ := HD.out (k + 1)
              have q2 := (HD.out k).2
              have hx := HDG.out L[k] (List.getElem_mem hkl)
              have hle := HLE.out
              rw [HB.out] at q2
              have hk0 : (0 : Int) ≤ (k : Int) := by omega
              have hk1 : (k : Int) < (n : Int) := by omega
              generalize bv (L.drop (k + 1)) = V at *
              generalize L[k] = x at *
              have w1 : IntKind.i64.wrap (V * 1000000000) = V * 1000000000 := IntWalk.i64_in _ (by omega)
              have w2 : IntKind.i64.wrap (V * 1000000000 + x) = V * 1000000000 + x := IntWalk.i64_in _ (by omega)
              clear hc2 e1 h0
              go_wp2_with fail
              first | go_round | (go_region; go_wp2_with fail; go_round)
              case rel => exact ⟨k, by omega, by go_num, by rw [HB.out]; congr 1 <;> omega⟩
              case measure => first | (simp [intOf]; done) | (simp [intOf]; omega)
        · have he' : ¬ (n : Int) = 3 := by omega
          go_enter Try.func88, Try.ntmps88
          go_wp2_with fail
          go_loop [4, 5] (fun nv i => ∃ k : Nat, k ≤ n ∧ i = .int .i64 ((k : Int) - 1) ∧ nv = .int .i64 (bv (L.drop k))) (fun _ i => (intOf i + 1).toNat)
          case atStart => exact ⟨n, Nat.le_refl _, rfl, by rw [List.drop_eq_nil_of_le (by have := HN.out; omega)]; rfl⟩
          case round =>
            obtain ⟨k, hk, rfl, rfl⟩ := hrel
            by_cases h0 : k = 0
            · subst h0
              rw [List.drop_zero]
              have hm : ¬ (0 : Int) ≤ ((0 : Nat) : Int) - 1 := by omega
              go_wp2_with fail
              go_ret2
              exact ⟨ret_ibB HS.out.symm rfl, rfl⟩
            · obtain ⟨k, rfl⟩ : ∃ k', k = k' + 1 := ⟨k - 1, by omega⟩
              have e1 : ((k + 1 : Nat) : Int) - 1 = (k : Int) := by omega
              rw [e1]
              obtain ⟨b2, o2, hA, -, hc2⟩ := HR.out (by omega)
              cases hA
              have hkl : k < L.length := by have := HN.out; omega
              have hc0 := hc2 k hkl
              have HB := Lib.hid (bv_drop L k hkl)
              obtain ⟨q0, q1⟩ := HD.out (k + 1)
              have q2 := (HD.out k).2
              have hx := HDG.out L[k] (List.getElem_mem hkl)
              have hle := HLE.out
              rw [HB.out] at q2
              have hk0 : (0 : Int) ≤ (k : Int) := by omega
              have hk1 : (k : Int) < (n : Int) := by omega
              generalize bv (L.drop (k + 1)) = V at *
              generalize L[k] = x at *
              have w1 : IntKind.i64.wrap (V * 1000000000) = V * 1000000000 := IntWalk.i64_in _ (by omega)
              have w2 : IntKind.i64.wrap (V * 1000000000 + x) = V * 1000000000 + x := IntWalk.i64_in _ (by omega)
              clear hc2 e1 h0
              go_wp2_with fail
              first | go_round | (go_region; go_wp2_with fail; go_round)
              case rel => exact ⟨k, by omega, by go_num, by rw [HB.out]; congr 1 <;> omega⟩
              case measure => first | (simp [intOf]; done) | (simp [intOf]; omega)
    · have HS : Hid (bgS L = 0) := by show _ = _; unfold bgS; rw [hT]; rfl
      have hl : L.length = 3 ∧ (1 < L.getD 2 0 ∨ L.getD 2 0 = 1 ∧ (0 < L.getD 0 0 ∨ 0 < L.getD 1 0)) := by
        unfold bgT at hT
        rw [decide_eq_false (by omega : ¬ 3 < L.length)] at hT
        simp only [Bool.false_or, Bool.and_eq_true, Bool.or_eq_true, decide_eq_true_eq] at hT
        exact hT
      obtain ⟨hl3, hcs⟩ := hl
      obtain ⟨b, o, rfl, -, hc⟩ := r (by omega)
      have c0 := hc 0 (by omega)
      have c1 := hc 1 (by omega)
      have c2 := hc 2 (by omega)
      rw [Nat.add_zero] at c0
      rw [getD_lt (by omega), getD_lt (by omega), getD_lt (by omega)] at hcs
      generalize L[0]'(by omega) = x0 at *
      generalize L[1]'(by omega) = x1 at *
      generalize L[2]'(by omega) = x2 at *
      have he1 : (n : Int) = 3 := by omega
      have he2 : (2 : Int) < (n : Int) := by omega
      have he3 : (1 : Int) < (n : Int) := by omega
      have he4 : (0 : Int) < (n : Int) := by omega
      have he5 : ((n : Int) == 3) = true := by rw [beq_iff_eq]; exact he1
      have h3' : ¬ (3 : Int) < (n : Int) := by omega
      have c1' : w.cell? ⟨b, 1 + o, none⟩ = some (.int .i64 x1) := by rw [Nat.add_comm]; exact c1
      have c2' : w.cell? ⟨b, 2 + o, none⟩ = some (.int .i64 x2) := by rw [Nat.add_comm]; exact c2
      clear hc he1 hn r hT HR hl3 hg
      by_cases d1 : 1 < x2
      · clear hcs
        go_enter Try.func88, Try.ntmps88
        go_wp2_with fail
        go_ret2
        exact ⟨ret_ibB HS.out.symm rfl, rfl⟩
      · have hcs2 : x2 = 1 ∧ (0 < x0 ∨ 0 < x1) := by rcases hcs with h | h; exact absurd h d1; exact h
        obtain ⟨rfl, hcs3⟩ := hcs2
        clear hcs
        by_cases d2 : 0 < x0
        · clear hcs3
          go_enter Try.func88, Try.ntmps88
          go_wp2_with fail
          go_ret2
          exact ⟨ret_ibB HS.out.symm rfl, rfl⟩
        · have d3 : 0 < x1 := by rcases hcs3 with h | h; exact absurd h d2; exact h
          clear hcs3
          go_enter Try.func88, Try.ntmps88
          go_wp2_with fail
          go_ret2
          exact ⟨ret_ibB HS.out.symm rfl, rfl⟩

theorem RowI.pre {w : World} {base g n c : Nat} {L : List Int} (h : RowI w base g n c L) (m : Nat) (hm : m ≤ n) : Own w base (.slice (some ⟨g, 0, none⟩) m c) (L.take m) := by
  obtain ⟨rfl, ho, h1, h2⟩ := h
  have hlen : (L.take m).length = m := by rw [List.length_take]; omega
  unfold Own at ho ⊢
  rw [hlen]
  refine ⟨by rw [intVals_length, hlen]; omega, ?_⟩
  rcases ho.2 with ⟨e, _⟩ | ⟨g', cap', cur, e, hb, hg, hnc, hcm, hcs, htake⟩
  · cases e
  · injection e with e1 e2 e3
    injection e1 with e1
    injection e1 with e1 _ _
    subst e1; subst e3
    refine .inr ⟨g, c, cur, rfl, hb, hg, by omega, hcm, hcs, ?_⟩
    rw [Nat.mul_one] at htake ⊢
    rw [show intVals (L.take m) = (intVals L).take m by simp [intVals, List.map_take], ← htake, List.take_take, Nat.min_eq_left hm]
theorem make_big (n : Nat) (hn : n ≤ 1000) (W : World) : (Instr.makeSlice 86 (.int .i64 (n : Int)) (.int .i64 (n : Int))).run Try.prog W = .ok (.slice (some ⟨W.heap.size, 0, none⟩) n n) (W.alloc (.cells (List.replicate n (Value.int .i64 0)).toArray 2)) := by
  obtain ⟨i0, hi, hz0, hz1, hz2⟩ := info_parts Try.infoInt
  have h := run_make (P := Try.prog) W 86 2 i0 (.int .i64 0) Try.underlying86 hi hz0 .i64 .i64 n n (by omega) (Int.le_refl _) (by rw [hz2]; omega) (by omega)
  rw [hz1, Int.toNat_natCast, made_repI _ rfl] at h
  exact h
end Go.Proofs.Ytmhdjimdhcephab
