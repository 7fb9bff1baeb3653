/- Several texts in one: The model's great numbers: of small ones, products, and whether they are small. | The model's products of great numbers. | The model's products that are divided by products. -/
import Derived.Test.YtmhdjimdhcephabBgQ
import Derived.Test.YtmhdjimdhcephabRoI
import Derived.Test.YtmhdjimdhcephabRuns
import Derived.Test.YtmhdjimdhcephabMki
import Derived.Test.YtmhdjimdhcephabPtP
import Derived.Test.YtmhdjimdhcephabGcd
import Derived.Test.YtmhdjimdhcephabFrac
import Derived.Test.YtmhdjimdhcephabBk
namespace Go.Proofs.Ytmhdjimdhcephab
open Go Go.RowKit
set_option linter.unusedVariables false

set_option maxRecDepth 100000 in
theorem l09Of_any (n : Int) (w : World) (h0 : 0 ≤ n) (h1 : n ≤ 1000000000000000000) :
    Calls Try.prog 85 #[.int .i64 n] w fun e w' => ∃ v, e = .returned v ∧ ∃ L, Own w' w.heap.size v L ∧ (BG L ∧ bv L = n ∧ L.length ≤ 3) ∧ Below w.heap.size w w' := by
  obtain ⟨i0, hi, hz0, hz1, hz2⟩ := info_parts Try.infoInt
  have HZ := Lib.hid (ofI_zero h0)
  have HN := Lib.hid h1
  have hn' : n ≤ 1000000000000000000 := h1
  clear h0 h1
  go_enter Try.func85, Try.ntmps85
  go_wp2_with fail
  go_loopw [0, 3] (fun nv v wr => ∃ (m : Int) (L : List Int), nv = .int .i64 m ∧ m ≤ 1000000000000000000 ∧ OfI n L m ∧ wr.ownsRow w.heap.size 2 1 v L.length (intVals L) ∧ Below w.heap.size w wr) (fun nv _ _ => (intOf nv).toNat)
  case atStart => exact ⟨n, [], rfl, hn', HZ.out, World.ownsRow_made w #[] 0 (Nat.le_refl _) (by decide) rfl, (Below.refl _ _).alloc (Nat.le_refl _) _⟩
  case round =>
    obtain ⟨m, L, rfl, hmb, hof, hown, hb⟩ := hrel
    have HO := Lib.hid hown
    have HB := Lib.hid hb
    have HF := Lib.hid hof
    have m0 := hof.m0
    have hlen := hof.len
    clear hown hb hof HZ hn'
    by_cases hlt : 0 < m
    · have HX := Lib.hid (ofI_next HF.out HN.out hlt)
      have hsz : w.heap.size ≤ wr.heap.size := HB.out.size
      have w1 : IntKind.i64.wrap (m / 1000000000) = m / 1000000000 := IntWalk.i64_in _ (by omega)
      have w2 : IntKind.i64.wrap (m % 1000000000) = m % 1000000000 := IntWalk.i64_in _ (by omega)
      have HQ : Hid (m / 1000000000 ≤ 1000000000000000000 ∧ (m / 1000000000).toNat < m.toNat) := by show _ ∧ _; omega
      obtain ⟨A, vc, rfl⟩ := own_shape HO.out
      go_wp2_with (at_builtin; refine wpList_append_lies _ rfl _ _ 86 rfl w.heap.size 2 i0 (.int .i64 0) 1 8 Try.underlying86 hi hz0 hz1 hz2 rfl (by decide) _ _ _ rfl (HO.out.alloc _) ⟨wr.heap.size, 0, none⟩ 1 1 [.int .i64 (m % 1000000000)] rfl rfl (c1_int _ _ _) (by intro u hu; simp at hu; subst hu; rfl) (by decide) (by unfold maxLen; omega) (by omega) (by simp; omega) (wr.heap.size + 1) (by simp) ?_)
      intro gg cap w2' hown2 hgrow hat hlt2
      have HB2 := Lib.hid (below_cons HB.out HB.out.size HO.out hgrow)
      have HO2 : Hid (w2'.ownsRow w.heap.size 2 1 (.slice (some ⟨gg, 0, none⟩) (L.length + 1) cap) (L ++ [m % 1000000000]).length (intVals (L ++ [m % 1000000000]))) := by
        show World.ownsRow _ _ _ _ _ _ _
        rw [List.length_append, ← intVals_snoc]; exact hown2
      clear hown2 hgrow hat hlt2 HO HB
      go_wp2_with fail
      go_roundw
      case rel => exact ⟨m / 1000000000, L ++ [m % 1000000000], rfl, HQ.out.1, HX.out, HO2.out, HB2.out⟩
      case measure => exact HQ.out.2
    · have HE := Lib.hid (ofI_end HF.out hlt)
      go_wp2_with fail
      go_ret
      exact ⟨_, rfl, L, HO.out, ⟨HE.out.1, HE.out.2, hlen⟩, HB.out⟩

theorem bv_drop (L : List Int) (k : Nat) (h : k < L.length) : bv (L.drop k) = L[k] + 1000000000 * bv (L.drop (k + 1)) := by
  rw [List.drop_eq_getElem_cons h, bv]
theorem bv_drop_le {L : List Int} (h : BD L) : ∀ k, 0 ≤ bv (L.drop k) ∧ bv (L.drop k) ≤ bv L := by
  have hd : ∀ k, BD (L.drop k) := fun k d hd => h d (List.mem_of_mem_drop hd)
  intro k
  induction k with
  | zero => rw [List.drop_zero]; exact ⟨(bv_bd h).1, Int.le_refl _⟩
  | succ k ih =>
    have h1 := (bv_bd (hd (k + 1))).1
    by_cases hk : k < L.length
    · rw [bv_drop L k hk] at ih
      have := h L[k] (List.getElem_mem hk)
      omega
    · rw [List.drop_eq_nil_of_le (show L.length ≤ k + 1 by omega)]
      exact ⟨by simp [bv], by have := (bv_bd h).1; simp [bv]; exact this⟩
def bgS (L : List Int) : Int := if bgT L then 0 else bv L
theorem ret_ibB {x y : Int} {c d : Bool} (h : x = y) (h1 : c = d) : Ending.returned (.tuple #[.int .i64 x, .bool c]) = .returned (.tuple #[.int .i64 y, .bool d]) := by rw [h, h1]
set_option maxRecDepth 100000 in
set_option maxHeartbeats 1000000 in
theorem l09Small_any (w : World) (v : Value) (L : List Int) (h : Rd w v L) (hg : BG L) :
    Calls Try.prog 88 #[v] w fun e w' => e = .returned (.tuple #[.int .i64 (bgS L), .bool (!bgT L)]) ∧ w = w' := by
  have hlen := h.len
  unfold maxLen at hlen
  obtain ⟨A, n, c, rfl, hn, -, -, r⟩ := h
  rw [hn] at hlen
  have HN := Lib.hid hn
  have HR := Lib.hid r
  have HD := Lib.hid (bv_drop_le hg.1)
  have HDG := Lib.hid hg.1
  have HIS := Lib.hid (bgT_is hg)
  by_cases h3 : 3 < n
  · have HT : Hid (bgT L = true) := by show _ = _; unfold bgT; rw [decide_eq_true (by omega : 3 < L.length)]; rfl
    have HS : Hid (bgS L = 0) := by show _ = _; unfold bgS; rw [HT.out]; rfl
    have h3' : (3 : Int) < (n : Int) := by omega
    clear hn r hg h3
    go_enter Try.func88, Try.ntmps88
    go_wp2_with fail
    go_ret2
    exact ⟨ret_ibB HS.out.symm (by rw [HT.out]; rfl), rfl⟩
  · cases hT : bgT L
    · have HS : Hid (bgS L = bv L) := by show _ = _; unfold bgS; rw [hT]; rfl
      have hle : bv L ≤ 1000000000000000000 := by have := HIS.out; rw [hT] at this; have := of_decide_eq_false this.symm; omega
      have hcond : ¬ n = 3 ∨ ∃ b o, A = some ⟨b, o, none⟩ ∧ w.cell? ⟨b, o, none⟩ = some (.int .i64 0) ∧ w.cell? ⟨b, o + 1, none⟩ = some (.int .i64 0) ∧ w.cell? ⟨b, o + 2, none⟩ = some (.int .i64 1) := by
        by_cases e : n = 3
        · right
          obtain ⟨b, o, rfl, -, hc⟩ := r (by omega)
          have c0 := hc 0 (by omega)
          have c1 := hc 1 (by omega)
          have c2 := hc 2 (by omega)
          rw [Nat.add_zero] at c0
          have hl : L.length = 3 := by omega
          have hz := hg.2 (by intro e'; rw [e'] at hl; simp at hl)
          rw [hl, show 3 - 1 = 2 from rfl] at hz
          unfold bgT at hT
          rw [decide_eq_false (by omega : ¬ 3 < L.length), decide_eq_true hl] at hT
          simp only [Bool.false_or, Bool.true_and, Bool.or_eq_false_iff, Bool.and_eq_false_iff, decide_eq_false_iff_not] at hT
          have d0 := hg.1.at 0
          have d1 := hg.1.at 1
          have d2 := hg.1.at 2
          have e2 : L.getD 2 0 = 1 := by omega
          have e3 : ¬ 0 < L.getD 0 0 ∧ ¬ 0 < L.getD 1 0 := by
            rcases hT.2 with h | h
            · exact absurd e2 h
            · exact h
          have e0 : L.getD 0 0 = 0 := by omega
          have e1 : L.getD 1 0 = 0 := by omega
          rw [getD_lt (by omega)] at e0 e1 e2
          rw [e0] at c0; rw [e1] at c1; rw [e2] at c2
          exact ⟨b, o, rfl, c0, c1, c2⟩
        · exact .inl e
      have HTF : Hid (bgT L = false) := hT
      clear hg hT hn r
      have h3' : ¬ (3 : Int) < (n : Int) := by omega
      have HLE := Lib.hid hle
      clear hle
      rcases hcond with he | ⟨b, o, rfl, c0, c1, c2⟩
      · have he' : ¬ (n : Int) = 3 := by omega
        go_enter Try.func88, Try.ntmps88
        go_wp2_with fail
        go_loop [4, 5] (fun nv i => ∃ k : Nat, k ≤ n ∧ i = .int .i64 ((k : Int) - 1) ∧ nv = .int .i64 (bv (L.drop k))) (fun _ i => (intOf i + 1).toNat)
        case atStart => exact ⟨n, Nat.le_refl _, rfl, by rw [List.drop_eq_nil_of_le (by have := HN.out; omega)]; rfl⟩
        case round =>
          obtain ⟨k, hk, rfl, rfl⟩ := hrel
          by_cases h0 : k = 0
          · subst h0
            rw [List.drop_zero]
            have hm : ¬ (0 : Int) ≤ ((0 : Nat) : Int) - 1 := by omega
            go_wp2_with fail
            go_ret2
            exact ⟨ret_ibB HS.out.symm rfl, rfl⟩
          · obtain ⟨k, rfl⟩ : ∃ k', k = k' + 1 := ⟨k - 1, by omega⟩
            have e1 : ((k + 1 : Nat) : Int) - 1 = (k : Int) := by omega
            rw [e1]
            obtain ⟨b2, o2, hA, -, hc2⟩ := HR.out (by omega)
            cases hA
            have hkl : k < L.length := by have := HN.out; omega
            have hc0 := hc2 k hkl
            have HB := Lib.hid (bv_drop L k hkl)
            obtain ⟨q0, q1⟩ := HD.out (k + 1)
            have q2 := (HD.out k).2
            have hx := HDG.out L[k] (List.getElem_mem hkl)
            have hle := HLE.out
            rw [HB.out] at q2
            have hk0 : (0 : Int) ≤ (k : Int) := by omega
            have hk1 : (k : Int) < (n : Int) := by omega
            generalize bv (L.drop (k + 1)) = V at *
            generalize L[k] = x at *
            have w1 : IntKind.i64.wrap (V * 1000000000) = V * 1000000000 := IntWalk.i64_in _ (by omega)
            have w2 : IntKind.i64.wrap (V * 1000000000 + x) = V * 1000000000 + x := IntWalk.i64_in _ (by omega)
            clear hc2 e1 h0
            go_wp2_with fail
            first | go_round | (go_region; go_wp2_with fail; go_round)
            case rel => exact ⟨k, by omega, by go_num, by rw [HB.out]; congr 1 <;> omega⟩
            case measure => first | (simp [intOf]; done) | (simp [intOf]; omega)
      · have c1' : w.cell? ⟨b, 1 + o, none⟩ = some (.int .i64 0) := by rw [Nat.add_comm]; exact c1
        have c2' : w.cell? ⟨b, 2 + o, none⟩ = some (.int .i64 1) := by rw [Nat.add_comm]; exact c2
        by_cases he : n = 3
        · have he1 : (n : Int) = 3 := by omega
          have he2 : (2 : Int) < (n : Int) := by omega
          have he3 : (1 : Int) < (n : Int) := by omega
          have he4 : (0 : Int) < (n : Int) := by omega
          have he5 : ((n : Int) == 3) = true := by rw [beq_iff_eq]; exact he1
          clear he he1
          go_enter Try.func88, Try.ntmps88
          go_wp2_with fail
          go_loop [4, 5] (fun nv i => ∃ k : Nat, k ≤ n ∧ i = .int .i64 ((k : Int) - 1) ∧ nv = .int .i64 (bv (L.drop k))) (fun _ i => (intOf i + 1).toNat)
          case atStart => exact ⟨n, Nat.le_refl _, rfl, by rw [List.drop_eq_nil_of_le (by have := HN.out; omega)]; rfl⟩
          case round =>
            obtain ⟨k, hk, rfl, rfl⟩ := hrel
            by_cases h0 : k = 0
            · subst h0
              rw [List.drop_zero]
              have hm : ¬ (0 : Int) ≤ ((0 : Nat) : Int) - 1 := by omega
              go_wp2_with fail
              go_ret2
              exact ⟨ret_ibB HS.out.symm rfl, rfl⟩
            · obtain ⟨k, rfl⟩ : ∃ k', k = k' + 1 := ⟨k - 1, by omega⟩
              have e1 : ((k + 1 : Nat) : Int) - 1 = (k : Int) := by omega
              rw [e1]
              obtain ⟨b2, o2, hA, -, hc2⟩ := HR.out (by omega)
              cases hA
              have hkl : k < L.length := by have := HN.out; omega
              have hc0 := hc2 k hkl
              have HB := Lib.hid (bv_drop L k hkl)
              obtain ⟨q0, q1⟩ := HD.out (k + 1)
              have q2 := (HD.out k).2
              have hx := HDG.out L[k] (List.getElem_mem hkl)
              have hle := HLE.out
              rw [HB.out] at q2
              have hk0 : (0 : Int) ≤ (k : Int) := by omega
              have hk1 : (k : Int) < (n : Int) := by omega
              generalize bv (L.drop (k + 1)) = V at *
              generalize L[k] = x at *
              have w1 : IntKind.i64.wrap (V * 1000000000) = V * 1000000000 := IntWalk.i64_in _ (by omega)
              have w2 : IntKind.i64.wrap (V * 1000000000 + x) = V * 1000000000 + x := IntWalk.i64_in _ (by omega)
              clear hc2 e1 h0
              go_wp2_with fail
              first | go_round | (go_region; go_wp2_with fail; go_round)
              case rel => exact ⟨k, by omega, by go_num, by rw [HB.out]; congr 1 <;> omega⟩
              case measure => first | (simp [intOf]; done) | (simp [intOf]; omega)
        · have he' : ¬ (n : Int) = 3 := by omega
          go_enter Try.func88, Try.ntmps88
          go_wp2_with fail
          go_loop [4, 5] (fun nv i => ∃ k : Nat, k ≤ n ∧ i = .int .i64 ((k : Int) - 1) ∧ nv = .int .i64 (bv (L.drop k))) (fun _ i => (intOf i + 1).toNat)
          case atStart => exact ⟨n, Nat.le_refl _, rfl, by rw [List.drop_eq_nil_of_le (by have := HN.out; omega)]; rfl⟩
          case round =>
            obtain ⟨k, hk, rfl, rfl⟩ := hrel
            by_cases h0 : k = 0
            · subst h0
              rw [List.drop_zero]
              have hm : ¬ (0 : Int) ≤ ((0 : Nat) : Int) - 1 := by omega
              go_wp2_with fail
              go_ret2
              exact ⟨ret_ibB HS.out.symm rfl, rfl⟩
            · obtain ⟨k, rfl⟩ : ∃ k', k = k' + 1 := ⟨k - 1, by omega⟩
              have e1 : ((k + 1 : Nat) : Int) - 1 = (k : Int) := by omega
              rw [e1]
              obtain ⟨b2, o2, hA, -, hc2⟩ := HR.out (by omega)
              cases hA
              have hkl : k < L.length := by have := HN.out; omega
              have hc0 := hc2 k hkl
              have HB := Lib.hid (bv_drop L k hkl)
              obtain ⟨q0, q1⟩ := HD.out (k + 1)
              have q2 := (HD.out k).2
              have hx := HDG.out L[k] (List.getElem_mem hkl)
              have hle := HLE.out
              rw [HB.out] at q2
              have hk0 : (0 : Int) ≤ (k : Int) := by omega
              have hk1 : (k : Int) < (n : Int) := by omega
              generalize bv (L.drop (k + 1)) = V at *
              generalize L[k] = x at *
              have w1 : IntKind.i64.wrap (V * 1000000000) = V * 1000000000 := IntWalk.i64_in _ (by omega)
              have w2 : IntKind.i64.wrap (V * 1000000000 + x) = V * 1000000000 + x := IntWalk.i64_in _ (by omega)
              clear hc2 e1 h0
              go_wp2_with fail
              first | go_round | (go_region; go_wp2_with fail; go_round)
              case rel => exact ⟨k, by omega, by go_num, by rw [HB.out]; congr 1 <;> omega⟩
              case measure => first | (simp [intOf]; done) | (simp [intOf]; omega)
    · have HS : Hid (bgS L = 0) := by show _ = _; unfold bgS; rw [hT]; rfl
      have hl : L.length = 3 ∧ (1 < L.getD 2 0 ∨ L.getD 2 0 = 1 ∧ (0 < L.getD 0 0 ∨ 0 < L.getD 1 0)) := by
        unfold bgT at hT
        rw [decide_eq_false (by omega : ¬ 3 < L.length)] at hT
        simp only [Bool.false_or, Bool.and_eq_true, Bool.or_eq_true, decide_eq_true_eq] at hT
        exact hT
      obtain ⟨hl3, hcs⟩ := hl
      obtain ⟨b, o, rfl, -, hc⟩ := r (by omega)
      have c0 := hc 0 (by omega)
      have c1 := hc 1 (by omega)
      have c2 := hc 2 (by omega)
      rw [Nat.add_zero] at c0
      rw [getD_lt (by omega), getD_lt (by omega), getD_lt (by omega)] at hcs
      generalize L[0]'(by omega) = x0 at *
      generalize L[1]'(by omega) = x1 at *
      generalize L[2]'(by omega) = x2 at *
      have he1 : (n : Int) = 3 := by omega
      have he2 : (2 : Int) < (n : Int) := by omega
      have he3 : (1 : Int) < (n : Int) := by omega
      have he4 : (0 : Int) < (n : Int) := by omega
      have he5 : ((n : Int) == 3) = true := by rw [beq_iff_eq]; exact he1
      have h3' : ¬ (3 : Int) < (n : Int) := by omega
      have c1' : w.cell? ⟨b, 1 + o, none⟩ = some (.int .i64 x1) := by rw [Nat.add_comm]; exact c1
      have c2' : w.cell? ⟨b, 2 + o, none⟩ = some (.int .i64 x2) := by rw [Nat.add_comm]; exact c2
      clear hc he1 hn r hT HR hl3 hg
      by_cases d1 : 1 < x2
      · clear hcs
        go_enter Try.func88, Try.ntmps88
        go_wp2_with fail
        go_ret2
        exact ⟨ret_ibB HS.out.symm rfl, rfl⟩
      · have hcs2 : x2 = 1 ∧ (0 < x0 ∨ 0 < x1) := by rcases hcs with h | h; exact absurd h d1; exact h
        obtain ⟨rfl, hcs3⟩ := hcs2
        clear hcs
        by_cases d2 : 0 < x0
        · clear hcs3
          go_enter Try.func88, Try.ntmps88
          go_wp2_with fail
          go_ret2
          exact ⟨ret_ibB HS.out.symm rfl, rfl⟩
        · have d3 : 0 < x1 := by rcases hcs3 with h | h; exact absurd h d2; exact h
          clear hcs3
          go_enter Try.func88, Try.ntmps88
          go_wp2_with fail
          go_ret2
          exact ⟨ret_ibB HS.out.symm rfl, rfl⟩

theorem RowI.pre {w : World} {base g n c : Nat} {L : List Int} (h : RowI w base g n c L) (m : Nat) (hm : m ≤ n) : Own w base (.slice (some ⟨g, 0, none⟩) m c) (L.take m) := by
  obtain ⟨rfl, ho, h1, h2⟩ := h
  have hlen : (L.take m).length = m := by rw [List.length_take]; omega
  unfold Own at ho ⊢
  rw [hlen]
  refine ⟨by rw [intVals_length, hlen]; omega, ?_⟩
  rcases ho.2 with ⟨e, _⟩ | ⟨g', cap', cur, e, hb, hg, hnc, hcm, hcs, htake⟩
  · cases e
  · injection e with e1 e2 e3
    injection e1 with e1
    injection e1 with e1 _ _
    subst e1; subst e3
    refine .inr ⟨g, c, cur, rfl, hb, hg, by omega, hcm, hcs, ?_⟩
    rw [Nat.mul_one] at htake ⊢
    rw [show intVals (L.take m) = (intVals L).take m by simp [intVals, List.map_take], ← htake, List.take_take, Nat.min_eq_left hm]
theorem make_big (n : Nat) (hn : n ≤ 1000) (W : World) : (Instr.makeSlice 86 (.int .i64 (n : Int)) (.int .i64 (n : Int))).run Try.prog W = .ok (.slice (some ⟨W.heap.size, 0, none⟩) n n) (W.alloc (.cells (List.replicate n (Value.int .i64 0)).toArray 2)) := by
  obtain ⟨i0, hi, hz0, hz1, hz2⟩ := info_parts Try.infoInt
  have h := run_make (P := Try.prog) W 86 2 i0 (.int .i64 0) Try.underlying86 hi hz0 .i64 .i64 n n (by omega) (Int.le_refl _) (by rw [hz2]; omega) (by omega)
  rw [hz1, Int.toNat_natCast, made_repI _ rfl] at h
  exact h
end Go.Proofs.Ytmhdjimdhcephab

namespace Go.Proofs.Ytmhdjimdhcephab
open Go Go.RowKit
set_option linter.unusedVariables false

set_option maxRecDepth 100000 in
set_option maxHeartbeats 2000000 in
theorem l09Times_any (w : World) (v1 v2 : Value) (a b : List Int) (h1 : Rd w v1 a) (h2 : Rd w v2 b) (ha : BD a) (hb : BD b) (la : a.length ≤ 400) (lb : b.length ≤ 400) :
    Calls Try.prog 86 #[v1, v2] w fun e w' => ∃ v, e = .returned v ∧ ∃ L, Own w' w.heap.size v L ∧ (BG L ∧ bv L = bv a * bv b ∧ L.length ≤ a.length + b.length) ∧ Below w.heap.size w w' := by
  obtain ⟨A1, n1, c1, rfl, hn1, -, -, r1⟩ := h1
  obtain ⟨A2, n2, c2, rfl, hn2, -, -, r2⟩ := h2
  have N1 := Lib.hid hn1
  have N2 := Lib.hid hn2
  have R1 := Lib.hid r1
  have R2 := Lib.hid r2
  have HA := Lib.hid ha
  have HB := Lib.hid hb
  rw [hn1] at la
  rw [hn2] at lb
  have hmk := make_big (n1 + n2) (by omega)
  have HM := Lib.hid (RowI.made w w.heap.size (n1 + n2) (by omega) (Nat.le_refl _))
  have HB0 := Lib.hid ((Below.refl w.heap.size w).alloc (Nat.le_refl _) (.cells (List.replicate (n1 + n2) (Value.int .i64 0)).toArray 2))
  have HZ := Lib.hid (tmI_zero a b)
  rw [hn1, hn2] at HZ
  have e12 : (((n1 + n2 : Nat)) : Int) = (n1 : Int) + (n2 : Int) := by omega
  rw [e12] at hmk
  have hmk' : ∀ W, (Instr.makeSlice 86 (.int .i64 ((n1 : Int) + (n2 : Int))) (.int .i64 ((n1 : Int) + (n2 : Int)))).run Try.prog W = .ok (.slice (some ⟨W.heap.size, 0, none⟩) (n1 + n2) (n1 + n2)) (W.alloc (.cells (List.replicate (n1 + n2) (Value.int .i64 0)).toArray 2)) := hmk
  clear hn1 hn2 r1 r2 ha hb hmk e12
  go_enter Try.func86, Try.ntmps86
  go_wp2_with fail
  go_loopw [6] (fun i wr => ∃ (k : Nat) (out : List Int), k ≤ n1 ∧ i = .int .i64 k ∧ TmI a b k 0 out 0 ∧ RowI wr w.heap.size w.heap.size (n1 + n2) (n1 + n2) out ∧ Below w.heap.size w wr) (fun i _ => n1 - (intOf i).toNat)
  case atStart => exact ⟨0, _, Nat.zero_le _, rfl, HZ.out, HM.out, HB0.out⟩
  case round =>
    obtain ⟨i, out, hi, rfl, htm, hrow, hbw⟩ := hrel
    have TM := Lib.hid htm
    have RW := Lib.hid hrow
    have BW := Lib.hid hbw
    clear htm hrow hbw HM HB0 HZ
    by_cases hil : i < n1
    · have hi1 : (i : Int) < (n1 : Int) := by omega
      have hi0 : (0 : Int) ≤ (i : Int) := by omega
      have hia : i < a.length := by have := N1.out; omega
      obtain ⟨b1, o1, rfl, hlt1, hc1⟩ := R1.out (by omega)
      have HXI := Lib.hid (hc1 i hia)
      have hx0 := HA.out a[i] (List.getElem_mem hia)
      have HAI : Hid (a.getD i 0 = a[i]) := getD_lt hia
      generalize a[i] = x at *
      have HIA := Lib.hid hia
      have HIL := Lib.hid hil
      clear hc1 hia hi hil
      go_wp2_with fail
      go_loopw [7, 8] (fun c k wr => ∃ (kk : Nat) (o : List Int) (cc : Int), k = .int .i64 kk ∧ c = .int .i64 cc ∧ TmI a b i kk o cc ∧ RowI wr w.heap.size w.heap.size (n1 + n2) (n1 + n2) o ∧ Below w.heap.size w wr) (fun _ k _ => n2 + 2 - (intOf k).toNat)
      case atStart => exact ⟨0, out, 0, rfl, rfl, TM.out, RW.out, BW.out⟩
      case round =>
        obtain ⟨k, out2, cc, rfl, rfl, htm, hrow, hbw⟩ := hrel
        clear TM RW BW
        have TM := Lib.hid htm
        have RW := Lib.hid hrow
        have BW := Lib.hid hbw
        have hcc := htm.c0
        have hkle := htm.kle
        rw [N2.out] at hkle
        have hk0 : (0 : Int) ≤ (k : Int) := by omega
        have wik : IntKind.i64.wrap ((i : Int) + (k : Int)) = (i : Int) + (k : Int) := IntWalk.i64_in _ (by omega)
        clear htm hrow hbw
        by_cases hcond : k < b.length ∨ 0 < cc
        · have hwh := tm_where TM.out HIA.out hcond
          have HNX := Lib.hid (tm_next HA.out HB.out TM.out HIA.out hcond)
          have hsb := tm_s (i := i) (k := k) HA.out HB.out TM.out
          have hrow1 : (i : Int) + (k : Int) < (n1 : Int) + (n2 : Int) := by have := TM.out.len; have := N1.out; have := N2.out; omega
          have hin : ((i : Int) + (k : Int)) = ((i + k : Nat) : Int) := by omega
          have hcl := RW.out.at (i + k) hwh
          have hfz := RW.out.fz (i + k)
          have hdo := TM.out.dig.at (i + k)
          rw [← getD_lt hwh] at hcl
          have HRS := Lib.hid (fun q z => (RW.out.drewN q).set (i + k) z)
          have HBS := Lib.hid (fun q z => (below_drewN BW.out q).setCell (p := ⟨w.heap.size, i + k, none⟩) (Nat.le_refl _) z)
          have HRT := Lib.hid (fun z => RW.out.set (i + k) z)
          have HBT := Lib.hid (fun z => BW.out.setCell (p := ⟨w.heap.size, i + k, none⟩) (Nat.le_refl _) z)
          have HMS : Hid (n2 + 2 - (k + 1) < n2 + 2 - k) := by
            show _ < _
            have := N2.out
            rcases hcond with h | h <;> omega
          have HKL : Hid (k ≤ n2) := by
            show _ ≤ _
            have := N2.out
            rcases hcond with h | h
            · omega
            · rcases hkle with h' | h'
              · exact h'
              · omega
          unfold tmS at HNX hsb
          by_cases hk : k < n2
          · have hkb : k < b.length := by have := N2.out; omega
            have hk1 : (k : Int) < (n2 : Int) := by omega
            obtain ⟨b2, o2, rfl, hlt2, hc2⟩ := R2.out (by omega)
            have hcy := (BW.out.cell (p := ⟨b2, o2 + k, none⟩) hlt2).trans (hc2 k hkb)
            have hcx := (BW.out.cell (p := ⟨b1, o1 + i, none⟩) hlt1).trans HXI.out
            have hy0 := HB.out b[k] (List.getElem_mem hkb)
            have HBK : Hid (b.getD k 0 = b[k]) := getD_lt hkb
            rw [if_pos hkb, HAI.out, HBK.out] at HNX hsb
            have hxy := bd_mul hx0 hy0
            generalize b[k] = y at *
            generalize out2.getD (i + k) 0 = o at *
            generalize hP : x * y = P at *
            have w1 : IntKind.i64.wrap (cc + o) = cc + o := IntWalk.i64_in _ (by omega)
            have w2 : IntKind.i64.wrap (cc + o + P) = cc + o + P := IntWalk.i64_in _ (by omega)
            have w3 : IntKind.i64.wrap P = P := IntWalk.i64_in _ (by omega)
            have hT0 : 0 ≤ cc + o + P := hsb.1
            clear hc2 hcond hkle hwh hin
            have hcy' : ∀ q, (wr.drewN q).cell? ⟨b2, o2 + k, none⟩ = some (.int .i64 y) := fun q => by simpa using hcy
            have hcx' : ∀ q, (wr.drewN q).cell? ⟨b1, o1 + i, none⟩ = some (.int .i64 x) := fun q => by simpa using hcx
            have hcl' : ∀ q, (wr.drewN q).cell? ⟨w.heap.size, i + k, none⟩ = some (.int .i64 o) := fun q => by simpa using hcl
            have hfz' : ∀ q, (wr.drewN q).frozen? ⟨w.heap.size, i + k, none⟩ = false := fun q => by simpa using hfz
            go_wp2_with fail
            go_quiet (fail)
            go_wp2_with fail
            go_roundw
            case rel => exact ⟨k + 1, _, _, by go_num, rfl, HNX.out, HRS.out _ _, HBS.out _ _⟩
            case measure => simp [intOf]; have := HMS.out; omega
          · have hkb : ¬ k < b.length := by have := N2.out; omega
            have hk1 : ¬ (k : Int) < (n2 : Int) := by omega
            have hc0 : 0 < cc := by rcases hcond with h | h; exact absurd h hkb; exact h
            rw [if_neg hkb] at HNX hsb
            rw [Int.add_zero] at HNX hsb
            generalize out2.getD (i + k) 0 = o at *
            have w1 : IntKind.i64.wrap (cc + o) = cc + o := IntWalk.i64_in _ (by omega)
            have hT0 : 0 ≤ cc + o := hsb.1
            clear hcond hkle hwh hin
            go_wp2_with fail
            go_roundw
            case rel => exact ⟨k + 1, _, _, by go_num, rfl, HNX.out, HRT.out _, HBT.out _⟩
            case measure => simp [intOf]; have := HMS.out; omega
        · have hkb : ¬ k < n2 := by have := N2.out; omega
          have hk1 : ¬ (k : Int) < (n2 : Int) := by omega
          have hc0 : ¬ 0 < cc := by omega
          have HRW := Lib.hid (tm_row TM.out HIA.out hcond)
          have HIL1 := HIL.out
          clear hcond hkle wik
          go_wp2_with fail
          go_roundw
          case rel => exact ⟨i + 1, out2, by have := HIL.out; omega, by go_num, HRW.out, RW.out, BW.out⟩
          case measure => simp [intOf]; have := HIL.out; omega
    · obtain rfl : i = n1 := by omega
      have HE : Hid (bv out = bv a * bv b) := tm_end (by have := TM.out; rwa [← N1.out] at this)
      have HDG := Lib.hid TM.out.dig
      have HLN : Hid (out.length = i + n2) := by show _ = _; rw [TM.out.len, N1.out, N2.out]
      have hpre := Lib.hid (fun m hm => RW.out.pre m hm)
      have hatc := Lib.hid (fun k hk => RW.out.at k hk)
      clear TM
      go_wp2_with fail
      go_loop [5] (fun v => ∃ m : Nat, m ≤ i + n2 ∧ v = .slice (some ⟨w.heap.size, 0, none⟩) m (i + n2) ∧ Hid (∀ j, m ≤ j → out.getD j 0 = 0)) (fun v => match v with | .slice _ m _ => m | _ => 0)
      case atStart => exact ⟨i + n2, Nat.le_refl _, rfl, fun j hj => getD_ge (by have := HLN.out; omega)⟩
      case round =>
        obtain ⟨m, hm, rfl, hz⟩ := hrel
        by_cases h0 : m = 0
        · subst h0
          have HT := Lib.hid (trim_end HDG.out (Nat.zero_le _) hz.out (.inl rfl))
          have HO := Lib.hid (hpre.out 0 (Nat.zero_le _))
          go_wp2_with fail
          go_ret
          exact ⟨_, rfl, _, HO.out, ⟨HT.out.1, by rw [HT.out.2.1, HE.out], by rw [HT.out.2.2]; exact Nat.zero_le _⟩, BW.out⟩
        · obtain ⟨m, rfl⟩ : ∃ m', m = m' + 1 := ⟨m - 1, by omega⟩
          have hml : m < out.length := by have := HLN.out; omega
          have hc := hatc.out m hml
          have em : ((m + 1 : Nat) : Int) - 1 = (m : Int) := by omega
          have hp : (0 : Int) < ((m + 1 : Nat) : Int) := by omega
          have hm0 : (0 : Int) ≤ (m : Int) := by omega
          have hm1 : (m : Int) < ((m + 1 : Nat) : Int) := by omega
          have hd : out.getD m 0 = out[m] := getD_lt hml
          obtain ⟨z, hzz⟩ : ∃ z, z = out[m] := ⟨_, rfl⟩
          rw [← hzz] at hc hd
          have HD := Lib.hid hd
          clear hzz hd h0
          by_cases hz0 : z = 0
          · subst hz0
            have HZ2 := Lib.hid (trim_next hz.out (by rw [Nat.add_sub_cancel]; exact HD.out))
            clear hz
            go_wp2_with fail
            exact ⟨⟨m, by omega, rfl, fun j hj => HZ2.out j (by omega)⟩, Nat.lt_succ_self m⟩
          · have HT := Lib.hid (trim_end HDG.out (by have := HLN.out; omega) hz.out (.inr (by rw [Nat.add_sub_cancel, HD.out]; exact hz0)))
            have HO := Lib.hid (hpre.out (m + 1) hm)
            have hzb : (z == 0) = false := by rw [beq_eq_false_iff_ne]; exact hz0
            clear hz
            go_wp2_with fail
            go_ret
            exact ⟨_, rfl, _, HO.out, ⟨HT.out.1, by rw [HT.out.2.1, HE.out], by rw [HT.out.2.2, N1.out, N2.out]; exact hm⟩, BW.out⟩
end Go.Proofs.Ytmhdjimdhcephab

namespace Go.Proofs.Ytmhdjimdhcephab
open Go Go.RowKit
set_option linter.unusedVariables false

def cI (A : List Nat) : List Int := A.map (fun n : Nat => (n : Int))
theorem cI_len (A : List Nat) : (cI A).length = A.length := by simp [cI]
theorem cI_at (A : List Nat) (i : Nat) (h : i < (cI A).length) : (cI A)[i] = (A[i]'(by rw [cI_len] at h; exact h) : Int) := by simp [cI]
theorem cI_set (A : List Nat) (i x : Nat) : (cI A).set i (x : Int) = cI (A.set i x) := by simp [cI, List.map_set]
def ptP (A0 B0 : List Nat) : Nat := prN A0 / Nat.gcd (prN A0) (prN B0)
def ptQ (A0 B0 : List Nat) : Nat := prN B0 / Nat.gcd (prN A0) (prN B0)
def ptK (A0 B0 : List Nat) : Bool := decide (ptP A0 B0 ≤ 1000000000000000000 ∧ ptQ A0 B0 ≤ 1000000000000000000)
def ptN (A0 B0 : List Nat) : Int := if ptK A0 B0 then (ptP A0 B0 : Int) else 0
def ptD (A0 B0 : List Nat) : Int := if ptK A0 B0 then (ptQ A0 B0 : Int) else 0
theorem prN_take (A : List Nat) (i : Nat) (h : i < A.length) : prN (A.take (i + 1)) = prN (A.take i) * A[i] := by
  rw [List.take_succ_eq_append_getElem h, prN_append]; simp [prN]
theorem rd_shP {w : World} {v : Value} {l : List Int} (h : Rd w v l) : ∃ A c, v = .slice A l.length c := by
  obtain ⟨A, n, c, e, hn, -⟩ := h
  exact ⟨A, c, by rw [e, hn]⟩
theorem bk_twoP {W : World} {b : Nat} {x y : Value} (h : Bk W b [x, y]) : W.cell? ⟨b, 0, none⟩ = some x ∧ W.cell? ⟨b, 1, none⟩ = some y := ⟨h.c 0 _ rfl, h.c 1 _ rfl⟩

set_option maxRecDepth 100000 in
set_option maxHeartbeats 2000000 in
theorem l09Part_any (w : World) (v1 v2 : Value) (A0 B0 : List Nat) (h1 : Rd w v1 (cI A0)) (h2 : Rd w v2 (cI B0)) (la0 : 0 < A0.length) (lb0 : 0 < B0.length) (la : A0.length ≤ 20) (lb : B0.length ≤ 20) (hA : ∀ x ∈ A0, x ≤ 1000000000000000000) (hB : ∀ x ∈ B0, 1 ≤ x ∧ x ≤ 1000000000000000000) :
    Calls Try.prog 62 #[v1, v2] w fun e w' => e = .returned (.tuple #[.agg #[.int .i64 (ptN A0 B0), .int .i64 (ptD A0 B0)], .bool (ptK A0 B0)]) ∧ Below w.heap.size w w' := by
  obtain ⟨PN, hPN⟩ : ∃ x, x = ptN A0 B0 := ⟨_, rfl⟩
  obtain ⟨PD, hPD⟩ : ∃ x, x = ptD A0 B0 := ⟨_, rfl⟩
  obtain ⟨PK, hPK⟩ : ∃ x, x = ptK A0 B0 := ⟨_, rfl⟩
  rw [← hPN, ← hPD, ← hPK]
  have HPN := Lib.hid hPN
  have HPD := Lib.hid hPD
  have HPK := Lib.hid hPK
  have HBP := Lib.hid (prN_pos (l := B0) (fun x hx => (hB x hx).1))
  clear hPN hPD hPK
  have HO1 := Lib.hid (fun W (h : Rd W v1 (cI A0)) => ownP_any W v1 (cI A0) h (by rw [cI_len]; omega) (by rw [cI_len]; omega))
  have HO2 := Lib.hid (fun W (h : Rd W v2 (cI B0)) => ownP_any W v2 (cI B0) h (by rw [cI_len]; omega) (by rw [cI_len]; omega))
  have HZ := Lib.hid (ptI_zero hA hB)
  have HB1 := Lib.hid (fun x hx => (hB x hx).1)
  obtain ⟨W0, hW0⟩ : ∃ W0, W0 = w.alloc (.cells #[.int .i64 0, .int .i64 0] 24) := ⟨_, rfl⟩
  have K0 : Hid (Below w.heap.size w W0) := by show Below _ _ _; rw [hW0]; exact (Below.refl _ _).alloc (Nat.le_refl _) _
  have X0 : Hid (Bk W0 w.heap.size [.int .i64 0, .int .i64 0]) := by show Bk _ _ _; rw [hW0]; exact Bk.new w [.int .i64 0, .int .i64 0] _ _ rfl
  have HW0 := Lib.hid hW0
  have H1 := Lib.hid (h1.keep K0.out)
  have H2 := Lib.hid (h2.keep K0.out)
  clear h1 h2 hA hB hW0
  go_enter Try.func62, Try.ntmps62
  go_wp2_with fail
  rw [← HW0.out]
  refine (HO1.out _ H1.out).mono ?_; rintro e w1 ⟨u1, rfl, ho1, hb1⟩
  obtain ⟨ga, ca, rfl, hra⟩ := RowI.of ho1 (by rw [cI_len]; omega)
  have RA1 := Lib.hid hra
  have H21 := Lib.hid (H2.out.keep hb1)
  have X1 := Lib.hid (X0.out.keep hb1)
  have K1 := Lib.hid (K0.out.trans (hb1.mono K0.out.size))
  have GA : Hid (W0.heap.size ≤ ga ∧ ga < w1.heap.size) := ⟨hra.2.2.1, hra.2.2.2⟩
  clear ho1 hra hb1 H1 H2 HO1
  go_wp2_with fail
  refine (HO2.out _ H21.out).mono ?_; rintro e w2 ⟨u2, rfl, ho2, hb2⟩
  obtain ⟨gb, cb, rfl, hrb⟩ := RowI.of ho2 (by rw [cI_len]; omega)
  have RB2 := Lib.hid hrb
  have RA2 := Lib.hid (RA1.out.keep hb2)
  have X2 := Lib.hid (X1.out.keep hb2)
  have K2 := Lib.hid (K1.out.trans (hb2.mono K1.out.size))
  have HNE : Hid (ga ≠ gb) := by show _ ≠ _; have := GA.out; have := hrb.2.2.1; omega
  have HLOW : Hid (w.heap.size < ga ∧ w.heap.size < gb) := by
    show _ ∧ _
    have := GA.out; have := hrb.2.2.1; have := X0.out.2.2; have := K1.out.size
    have hz : w1.heap.size ≤ gb := hrb.2.2.1
    omega
  clear ho2 hrb hb2 H21 HO2 X1 K1 RA1 X0 K0
  have LA : Hid (A0.length = (cI A0).length) := (cI_len A0).symm
  have LB : Hid (B0.length = (cI B0).length) := (cI_len B0).symm
  rw [cI_len] at RA2 RB2 ⊢
  rw [cI_len]
  generalize hna : A0.length = na at *
  generalize hnb : B0.length = nb at *
  have HNA := Lib.hid hna
  have HNB := Lib.hid hnb
  clear hna hnb LA LB
  go_wp2_with fail
  go_loopw [8] (fun i wr => ∃ (k : Nat) (A B : List Nat), k ≤ na ∧ i = .int .i64 k ∧ PtI 1000000000000000000 A0 B0 k 0 A B ∧ RowI wr W0.heap.size ga na ca (cI A) ∧ RowI wr w1.heap.size gb nb cb (cI B) ∧ Bk wr w.heap.size [.int .i64 0, .int .i64 0] ∧ Below w.heap.size w wr) (fun i _ => na - (intOf i).toNat)
  case atStart => exact ⟨0, A0, B0, Nat.zero_le _, rfl, HZ.out, RA2.out, RB2.out, X2.out, K2.out⟩
  case round =>
    obtain ⟨i, A, B, hi, rfl, hpt, hra, hrb, hx, hk⟩ := hrel
    have PT := Lib.hid hpt
    have RA := Lib.hid hra
    have RB := Lib.hid hrb
    have XX := Lib.hid hx
    have KK := Lib.hid hk
    clear hpt hra hrb hx hk RA2 RB2 X2 K2 HZ
    by_cases hil : i < na
    · have hi1 : (i : Int) < (na : Int) := by omega
      have hi0 : (0 : Int) ≤ (i : Int) := by omega
      have HIL := Lib.hid hil
      clear hil hi
      go_wp2_with fail
      go_loopw [9] (fun kk wr => ∃ (k : Nat) (A B : List Nat), k ≤ nb ∧ kk = .int .i64 k ∧ PtI 1000000000000000000 A0 B0 i k A B ∧ RowI wr W0.heap.size ga na ca (cI A) ∧ RowI wr w1.heap.size gb nb cb (cI B) ∧ Bk wr w.heap.size [.int .i64 0, .int .i64 0] ∧ Below w.heap.size w wr) (fun kk _ => nb - (intOf kk).toNat)
      case atStart => exact ⟨0, A, B, Nat.zero_le _, rfl, PT.out, RA.out, RB.out, XX.out, KK.out⟩
      case round =>
        obtain ⟨k, A, B, hk, rfl, hpt, hra, hrb, hx, hkk⟩ := hrel
        clear PT RA RB XX KK
        have PT := Lib.hid hpt
        have RA := Lib.hid hra
        have RB := Lib.hid hrb
        have XX := Lib.hid hx
        have KK := Lib.hid hkk
        have hla : A.length = na := by rw [hpt.la]; exact HNA.out
        have hlb : B.length = nb := by rw [hpt.lb]; exact HNB.out
        clear hpt hra hrb hx hkk
        by_cases hkl : k < nb
        · have hk1 : (k : Int) < (nb : Int) := by omega
          have hk0 : (0 : Int) ≤ (k : Int) := by omega
          have hiA : i < A.length := by have := HIL.out; omega
          have hkB : k < B.length := by omega
          have hca := RA.out.at i (by rw [cI_len]; exact hiA)
          have hcb := RB.out.at k (by rw [cI_len]; exact hkB)
          rw [cI_at] at hca hcb
          have hXm := PT.out.leA A[i] (List.getElem_mem hiA)
          have hYm := PT.out.leB B[k] (List.getElem_mem hkB)
          have hY1 := PT.out.pos B[k] (List.getElem_mem hkB)
          have HNX := Lib.hid (ptI_next PT.out hiA hkB)
          have HSA : Hid (A.set i A[i] = A) := List.set_getElem_self hiA
          have HSB : Hid (B.set k B[k] = B) := List.set_getElem_self hkB
          generalize A[i] = X at *
          generalize B[k] = Y at *
          have hG0 : 0 < Nat.gcd X Y := Nat.gcd_pos_of_pos_right _ (by omega)
          have hG1 : Nat.gcd X Y ≤ Y := Nat.gcd_le_right _ (by omega)
          have HG : Hid (∀ W, Calls Try.prog 119 #[.int .i64 (X : Int), .int .i64 (Y : Int)] W fun e w' => e = .returned (.int .i64 ((Nat.gcd X Y : Nat) : Int)) ∧ W = w') := by
            show ∀ W, _
            intro W
            have := l01Gcd_any (X : Int) (Y : Int) W (by omega) (by omega) (by omega) (by omega)
            simpa using this
          have hca' : ∀ q, (wr.drewN q).cell? ⟨ga, i, none⟩ = some (.int .i64 (X : Int)) := fun q => by simpa using hca
          have hcb' : ∀ q, (wr.drewN q).cell? ⟨gb, k, none⟩ = some (.int .i64 (Y : Int)) := fun q => by simpa using hcb
          have RAq := Lib.hid (fun q => RA.out.drewN q)
          have RBq := Lib.hid (fun q => RB.out.drewN q)
          have XXq := Lib.hid (fun q => XX.out.drewN q)
          have KKq := Lib.hid (fun q => below_drewN KK.out q)
          have HKL := Lib.hid hkl
          generalize Nat.gcd X Y = G at *
          clear hla hlb hiA hkB
          go_wp2_with fail
          go_quiet ((go_at_call 119; exact quiet_left (HG.out _)))
          by_cases hg1 : 1 < G
          · have hg1' : (1 : Int) < (G : Int) := by omega
            have hg2 : (0 : Int) < (G : Int) := by omega
            have hg3 : ((G : Int) == 0) = false := by rw [beq_eq_false_iff_ne]; omega
            have hx0 : (0 : Int) ≤ (X : Int) := by omega
            have hy0 : (0 : Int) ≤ (Y : Int) := by omega
            have hxg : (X : Int) / (G : Int) = ((X / G : Nat) : Int) := (Int.natCast_ediv X G).symm
            have hyg : (Y : Int) / (G : Int) = ((Y / G : Nat) : Int) := (Int.natCast_ediv Y G).symm
            have hxb : X / G ≤ 1000000000000000000 := Nat.le_trans (Nat.div_le_self _ _) hXm
            have hyb : Y / G ≤ 1000000000000000000 := Nat.le_trans (Nat.div_le_self _ _) hYm
            generalize X / G = XG at *
            generalize Y / G = YG at *
            have w1 : IntKind.i64.wrap (XG : Int) = (XG : Int) := IntWalk.i64_in _ (by omega)
            have w2 : IntKind.i64.wrap (YG : Int) = (YG : Int) := IntWalk.i64_in _ (by omega)
            have hfa : ∀ q, (wr.drewN q).frozen? ⟨ga, i, none⟩ = false := fun q => (RAq.out q).fz i
            have RB3 := Lib.hid (fun q => (RBq.out q).far (RAq.out q) (Ne.symm HNE.out) i (XG : Int))
            have RA3 := Lib.hid (fun q => (RAq.out q).set i (XG : Int))
            have hcb2 : ∀ q, ((wr.drewN q).setCell ⟨ga, i, none⟩ (.int .i64 (XG : Int))).cell? ⟨gb, k, none⟩ = some (.int .i64 (Y : Int)) := fun q => by
              rw [World.cell?_setCell_far _ _ _ _ (by show ga ≠ gb; exact HNE.out)]; exact hcb' q
            have hfb2 : ∀ q, ((wr.drewN q).setCell ⟨ga, i, none⟩ (.int .i64 (XG : Int))).frozen? ⟨gb, k, none⟩ = false := fun q => (RB3.out q).fz k
            have RA4 := Lib.hid (fun q => (RA3.out q).far (RB3.out q) HNE.out k (YG : Int))
            have RB4 := Lib.hid (fun q => (RB3.out q).set k (YG : Int))
            have XX4 := Lib.hid (fun q => ((XXq.out q).far ⟨ga, i, none⟩ (by show ga ≠ w.heap.size; have := HLOW.out; omega) (.int .i64 (XG : Int))).far ⟨gb, k, none⟩ (by show gb ≠ w.heap.size; have := HLOW.out; omega) (.int .i64 (YG : Int)))
            have KK4 := Lib.hid (fun q => ((KKq.out q).setCell (p := ⟨ga, i, none⟩) (by show w.heap.size ≤ ga; have := HLOW.out; omega) (.int .i64 (XG : Int))).setCell (p := ⟨gb, k, none⟩) (by show w.heap.size ≤ gb; have := HLOW.out; omega) (.int .i64 (YG : Int)))
            rw [cI_set] at RA4 RB4
            clear hca hcb RAq RBq XXq KKq RA3 RB3 hg1
            go_wp2_with fail
            go_roundw
            case rel => exact ⟨k + 1, _, _, HKL.out, by go_num, HNX.out, RA4.out _, RB4.out _, XX4.out _, KK4.out _⟩
            case measure => simp [intOf]; have := HKL.out; omega
          · have hg1' : ¬ (1 : Int) < (G : Int) := by omega
            have hG : G = 1 := by omega
            rw [hG, Nat.div_one, Nat.div_one, HSA.out, HSB.out] at HNX
            clear hca hcb hg1 hG
            go_wp2_with fail
            go_roundw
            case rel => exact ⟨k + 1, A, B, HKL.out, by go_num, HNX.out, RAq.out _, RBq.out _, XXq.out _, KKq.out _⟩
            case measure => simp [intOf]; have := HKL.out; omega
        · obtain rfl : k = nb := by omega
          have PR := Lib.hid (ptI_row PT.out (by omega))
          clear hla hlb hk
          go_wp2_with fail
          go_roundw
          case rel => exact ⟨i + 1, A, B, by have := HIL.out; omega, by go_num, PR.out, RA.out, RB.out, XX.out, KK.out⟩
          case measure => simp [intOf]; have := HIL.out; omega
    · obtain rfl : i = na := by omega
      have HE := Lib.hid (ptI_end PT.out (by rw [PT.out.la, HNA.out]; exact Nat.le_refl _) HB1.out)
      have HLA : Hid (A.length = i) := by show _ = _; rw [PT.out.la]; exact HNA.out
      have HLB : Hid (B.length = nb) := by show _ = _; rw [PT.out.lb]; exact HNB.out
      have HMA := Lib.hid PT.out.leA
      have HMB := Lib.hid PT.out.leB
      clear PT hi hil HB1
      go_wp2_with fail
      refine (l09Of_any 1 _ (by decide) (by decide)).mono ?_; rintro e w3 ⟨xv, rfl, LX, hox, hgx, hb3⟩
      have RX3 := Lib.hid hox.rd
      have GX := Lib.hid hgx
      have RA3 := Lib.hid (RA.out.keep hb3)
      have RB3 := Lib.hid (RB.out.keep hb3)
      have XX3 := Lib.hid (XX.out.keep hb3)
      have KK3 := Lib.hid (KK.out.trans (hb3.mono KK.out.size))
      clear hox hgx hb3 RA RB XX KK
      go_wp2_with fail
      refine (l09Of_any 1 _ (by decide) (by decide)).mono ?_; rintro e w4 ⟨yv, rfl, LY, hoy, hgy, hb4⟩
      have RY4 := Lib.hid hoy.rd
      have GY := Lib.hid hgy
      have RX4 := Lib.hid (RX3.out.keep hb4)
      have RA4 := Lib.hid (RA3.out.keep hb4)
      have RB4 := Lib.hid (RB3.out.keep hb4)
      have XX4 := Lib.hid (XX3.out.keep hb4)
      have KK4 := Lib.hid (KK3.out.trans (hb4.mono KK3.out.size))
      clear hoy hgy hb4 RX3 RA3 RB3 XX3 KK3
      go_wp2_with fail
      go_loopw [11, 13] (fun v c wr => ∃ (k : Nat) (L : List Int), k ≤ i ∧ c = .int .i64 k ∧ Rd wr v L ∧ (BG L ∧ bv L = (prN (A.take k) : Nat) ∧ L.length ≤ 3 + 3 * k) ∧ Rd wr yv LY ∧ RowI wr W0.heap.size ga i ca (cI A) ∧ RowI wr w1.heap.size gb nb cb (cI B) ∧ Bk wr w.heap.size [.int .i64 0, .int .i64 0] ∧ Below w.heap.size w wr) (fun _ c _ => i - (intOf c).toNat)
      case atStart => exact ⟨0, LX, Nat.zero_le _, rfl, RX4.out, ⟨GX.out.1, by rw [GX.out.2.1]; rfl, by have := GX.out.2.2; omega⟩, RY4.out, RA4.out, RB4.out, XX4.out, KK4.out⟩
      case round =>
        obtain ⟨k, L, hk, rfl, hrx, hgl, hry, hra, hrb, hx, hkk⟩ := hrel
        clear RX4 RY4 RA4 RB4 XX4 KK4
        have RX := Lib.hid hrx
        have GL := Lib.hid hgl
        have RY := Lib.hid hry
        have RA := Lib.hid hra
        have RB := Lib.hid hrb
        have XX := Lib.hid hx
        have KK := Lib.hid hkk
        clear hrx hgl hry hra hrb hx hkk
        by_cases hkl : k < i
        · have hk1 : (k : Int) < (i : Int) := by omega
          have hk0 : (0 : Int) ≤ (k : Int) := by omega
          have hkA : k < A.length := by rw [HLA.out]; exact hkl
          have hca := RA.out.at k (by rw [cI_len]; exact hkA)
          rw [cI_at] at hca
          have hXm := HMA.out A[k] (List.getElem_mem hkA)
          have HTK := Lib.hid (prN_take A k hkA)
          have HKL := Lib.hid hkl
          generalize A[k] = X at *
          clear hkA
          go_wp2_with fail
          refine (l09Of_any (X : Int) _ (by omega) (by omega)).mono ?_; rintro e w5 ⟨xv2, rfl, LX2, hox, hgx, hb5⟩
          have RX2 := Lib.hid hox.rd
          have GX2 := Lib.hid hgx
          have RX5 := Lib.hid (RX.out.keep hb5)
          have RY5 := Lib.hid (RY.out.keep hb5)
          have RA5 := Lib.hid (RA.out.keep hb5)
          have RB5 := Lib.hid (RB.out.keep hb5)
          have XX5 := Lib.hid (XX.out.keep hb5)
          have KK5 := Lib.hid (KK.out.trans (hb5.mono KK.out.size))
          clear hox hgx hb5 RX RY RA RB XX KK hca
          go_wp2_with fail
          refine (l09Times_any _ _ _ L LX2 RX5.out RX2.out GL.out.1.1 GX2.out.1.1 (by have := GL.out.2.2; omega) (by have := GX2.out.2.2; omega)).mono ?_; rintro e w6 ⟨xv3, rfl, LX3, hox, hgx, hb6⟩
          have RX6 := Lib.hid hox.rd
          have GL6 : Hid (BG LX3 ∧ bv LX3 = (prN (A.take (k + 1)) : Nat) ∧ LX3.length ≤ 3 + 3 * (k + 1)) := by
            refine ⟨hgx.1, ?_, ?_⟩
            · rw [hgx.2.1, GL.out.2.1, GX2.out.2.1, HTK.out]; exact (Int.natCast_mul _ _).symm
            · have h1 := hgx.2.2; have h2 := GL.out.2.2; have h3 := GX2.out.2.2; omega
          have RY6 := Lib.hid (RY5.out.keep hb6)
          have RA6 := Lib.hid (RA5.out.keep hb6)
          have RB6 := Lib.hid (RB5.out.keep hb6)
          have XX6 := Lib.hid (XX5.out.keep hb6)
          have KK6 := Lib.hid (KK5.out.trans (hb6.mono KK5.out.size))
          clear hox hgx hb6 RX5 RY5 RA5 RB5 XX5 KK5 RX2
          go_wp2_with fail
          go_roundw
          case rel => exact ⟨k + 1, LX3, HKL.out, by go_num, RX6.out, GL6.out, RY6.out, RA6.out, RB6.out, XX6.out, KK6.out⟩
          case measure => simp [intOf]; have := HKL.out; omega
        · obtain rfl : k = i := by omega
          obtain ⟨AX, cX, hvx⟩ := rd_shP RX.out
          subst hvx
          have GLE : Hid (BG L ∧ bv L = (ptP A0 B0 : Nat) ∧ L.length ≤ 300) := by
            refine ⟨GL.out.1, ?_, by have := GL.out.2.2; omega⟩
            rw [GL.out.2.1, ← HLA.out, List.take_length]
            exact congrArg _ HE.out.1
          clear GL hk hkl
          go_wp2_with fail
          clear RA
          go_loopw [12, 14] (fun v c wr => ∃ (m : Nat) (M : List Int), m ≤ nb ∧ c = .int .i64 m ∧ Rd wr v M ∧ (BG M ∧ bv M = (prN (B.take m) : Nat) ∧ M.length ≤ 3 + 3 * m) ∧ Rd wr (.slice AX L.length cX) L ∧ RowI wr w1.heap.size gb nb cb (cI B) ∧ Bk wr w.heap.size [.int .i64 0, .int .i64 0] ∧ Below w.heap.size w wr) (fun _ c _ => nb - (intOf c).toNat)
          case atStart => exact ⟨0, LY, Nat.zero_le _, rfl, RY.out, ⟨GY.out.1, by rw [GY.out.2.1]; rfl, by have := GY.out.2.2; omega⟩, RX.out, RB.out, XX.out, KK.out⟩
          case round =>
            obtain ⟨m, M, hm, rfl, hry, hgl, hrx, hrb, hx, hkk⟩ := hrel
            clear RX RY RB XX KK
            have RY := Lib.hid hry
            have GM := Lib.hid hgl
            have RX := Lib.hid hrx
            have RB := Lib.hid hrb
            have XX := Lib.hid hx
            have KK := Lib.hid hkk
            clear hrx hgl hry hrb hx hkk
            by_cases hml : m < nb
            · have hk1 : (m : Int) < (nb : Int) := by omega
              have hk0 : (0 : Int) ≤ (m : Int) := by omega
              have hkB : m < B.length := by rw [HLB.out]; exact hml
              have hcb := RB.out.at m (by rw [cI_len]; exact hkB)
              rw [cI_at] at hcb
              have hYm := HMB.out B[m] (List.getElem_mem hkB)
              have HTK := Lib.hid (prN_take B m hkB)
              have HKL := Lib.hid hml
              generalize B[m] = Y at *
              clear hkB
              go_wp2_with fail
              refine (l09Of_any (Y : Int) _ (by omega) (by omega)).mono ?_; rintro e w5 ⟨xv2, rfl, LX2, hox, hgx, hb5⟩
              have RX2 := Lib.hid hox.rd
              have GX2 := Lib.hid hgx
              have RX5 := Lib.hid (RX.out.keep hb5)
              have RY5 := Lib.hid (RY.out.keep hb5)
              have RB5 := Lib.hid (RB.out.keep hb5)
              have XX5 := Lib.hid (XX.out.keep hb5)
              have KK5 := Lib.hid (KK.out.trans (hb5.mono KK.out.size))
              clear hox hgx hb5 RX RY RB XX KK hcb
              go_wp2_with fail
              refine (l09Times_any _ _ _ M LX2 RY5.out RX2.out GM.out.1.1 GX2.out.1.1 (by have := GM.out.2.2; omega) (by have := GX2.out.2.2; omega)).mono ?_; rintro e w6 ⟨xv3, rfl, LX3, hox, hgx, hb6⟩
              have RY6 := Lib.hid hox.rd
              have GL6 : Hid (BG LX3 ∧ bv LX3 = (prN (B.take (m + 1)) : Nat) ∧ LX3.length ≤ 3 + 3 * (m + 1)) := by
                refine ⟨hgx.1, ?_, ?_⟩
                · rw [hgx.2.1, GM.out.2.1, GX2.out.2.1, HTK.out]; exact (Int.natCast_mul _ _).symm
                · have h1 := hgx.2.2; have h2 := GM.out.2.2; have h3 := GX2.out.2.2; omega
              have RX6 := Lib.hid (RX5.out.keep hb6)
              have RB6 := Lib.hid (RB5.out.keep hb6)
              have XX6 := Lib.hid (XX5.out.keep hb6)
              have KK6 := Lib.hid (KK5.out.trans (hb6.mono KK5.out.size))
              clear hox hgx hb6 RX5 RY5 RB5 XX5 KK5 RX2
              go_wp2_with fail
              go_roundw
              case rel => exact ⟨m + 1, LX3, HKL.out, by go_num, RY6.out, GL6.out, RX6.out, RB6.out, XX6.out, KK6.out⟩
              case measure => simp [intOf]; have := HKL.out; omega
            · obtain rfl : m = nb := by omega
              have GME : Hid (BG M ∧ bv M = (ptQ A0 B0 : Nat)) := by
                refine ⟨GM.out.1, ?_⟩
                rw [GM.out.2.1, ← HLB.out, List.take_length]
                exact congrArg _ HE.out.2
              have HSX := Lib.hid (fun W (h : Rd W (.slice AX L.length cX) L) => l09Small_any W _ L h GLE.out.1)
              have HSY := Lib.hid (fun W v (h : Rd W v M) => l09Small_any W v M h GME.out.1)
              have HTX : Hid (bgT L = decide (1000000000000000000 < ptP A0 B0)) := by
                show _ = _
                rw [bgT_is GLE.out.1, GLE.out.2.1]
                by_cases hc : 1000000000000000000 < ptP A0 B0
                · rw [decide_eq_true hc, decide_eq_true (by omega)]
                · rw [decide_eq_false hc, decide_eq_false (by omega)]
              have HTY : Hid (bgT M = decide (1000000000000000000 < ptQ A0 B0)) := by
                show _ = _
                rw [bgT_is GME.out.1, GME.out.2]
                by_cases hc : 1000000000000000000 < ptQ A0 B0
                · rw [decide_eq_true hc, decide_eq_true (by omega)]
                · rw [decide_eq_false hc, decide_eq_false (by omega)]
              clear GM hm hml HMA HMB RB
              obtain ⟨r0, r1⟩ := bk_twoP XX.out
              have f0 := XX.out.f 0 (by decide)
              have f1 := XX.out.f 1 (by decide)
              by_cases hz : L.length = 0
              · have hP0 : ptP A0 B0 = 0 := by
                  have := (bv_nil GLE.out.1).2 (List.length_eq_zero_iff.1 hz)
                  rw [GLE.out.2.1] at this
                  omega
                have hQ1 : ptQ A0 B0 = 1 := by
                  have h0 : prN A0 = 0 := by
                    unfold ptP at hP0
                    have hgp := Nat.gcd_pos_of_pos_right (prN A0) HBP.out
                    rcases (Nat.div_eq_zero_iff).1 hP0 with h | h
                    · omega
                    · refine Nat.eq_zero_of_not_pos fun hp => ?_
                      have := Nat.le_of_dvd hp (Nat.gcd_dvd_left (prN A0) (prN B0))
                      omega
                  unfold ptQ
                  rw [h0, Nat.gcd_zero_left]
                  exact Nat.div_self HBP.out
                have e3 : PK = true := by rw [HPK.out]; unfold ptK; rw [hP0, hQ1]; rfl
                have e1 : PN = 0 := by rw [HPN.out]; unfold ptN; rw [← HPK.out, e3, hP0]; rfl
                have e2 : PD = 1 := by rw [HPD.out]; unfold ptD; rw [← HPK.out, e3, hQ1]; rfl
                have hz' : (L.length : Int) = 0 := by omega
                subst e1 e2 e3
                clear hP0 hQ1
                generalize L.length = lx at *
                clear hz
                go_wp2_with fail
                simp [bodyPost, results, Try.results62, go_sem, r0, r1]
                first | exact (KK.out.setCell (p := ⟨w.heap.size, 0, none⟩) (Nat.le_refl _) _).setCell (p := ⟨w.heap.size, 1, none⟩) (Nat.le_refl _) _ | exact KK.out
              · have hz' : ¬ (L.length : Int) = 0 := by omega
                have HVX : Hid (bv L = (ptP A0 B0 : Nat)) := GLE.out.2.1
                have HVY : Hid (bv M = (ptQ A0 B0 : Nat)) := GME.out.2
                generalize hlx : L.length = lx at *
                clear hlx hz
                by_cases hp : ptP A0 B0 ≤ 1000000000000000000
                · have hbx : bgT L = false := by rw [HTX.out]; exact decide_eq_false (by omega)
                  have hsx : bgS L = (ptP A0 B0 : Nat) := by unfold bgS; rw [hbx]; exact HVX.out
                  by_cases hq : ptQ A0 B0 ≤ 1000000000000000000
                  · have hby : bgT M = false := by rw [HTY.out]; exact decide_eq_false (by omega)
                    have hsy : bgS M = (ptQ A0 B0 : Nat) := by unfold bgS; rw [hby]; exact HVY.out
                    have hpk : ptK A0 B0 = true := decide_eq_true ⟨hp, hq⟩
                    have e1 : PN = (ptP A0 B0 : Nat) := by rw [HPN.out]; unfold ptN; rw [hpk]; rfl
                    have e2 : PD = (ptQ A0 B0 : Nat) := by rw [HPD.out]; unfold ptD; rw [hpk]; rfl
                    have e3 : PK = true := by rw [HPK.out]; exact hpk
                    rw [hbx, hsx] at HSX
                    rw [hby, hsy] at HSY
                    subst e1 e2 e3
                    clear hbx hby hsx hsy hpk hp hq
                    go_wp2_with fail
                    refine (HSX.out _ RX.out).mono ?_; rintro e w' ⟨rfl, rfl⟩
                    go_wp2_with fail
                    refine (HSY.out _ _ RY.out).mono ?_; rintro e w' ⟨rfl, rfl⟩
                    go_wp2_with fail
                    simp [bodyPost, results, Try.results62, go_sem, r0, r1]
                    first | exact (KK.out.setCell (p := ⟨w.heap.size, 0, none⟩) (Nat.le_refl _) _).setCell (p := ⟨w.heap.size, 1, none⟩) (Nat.le_refl _) _ | exact KK.out
                  · have hby : bgT M = true := by rw [HTY.out]; exact decide_eq_true (by omega)
                    have hsy : bgS M = 0 := by unfold bgS; rw [hby]; rfl
                    have hpk : ptK A0 B0 = false := decide_eq_false (fun h => hq h.2)
                    have e1 : PN = 0 := by rw [HPN.out]; unfold ptN; rw [hpk]; rfl
                    have e2 : PD = 0 := by rw [HPD.out]; unfold ptD; rw [hpk]; rfl
                    have e3 : PK = false := by rw [HPK.out]; exact hpk
                    rw [hbx, hsx] at HSX
                    rw [hby, hsy] at HSY
                    subst e1 e2 e3
                    clear hbx hby hsx hsy hpk hp hq
                    go_wp2_with fail
                    refine (HSX.out _ RX.out).mono ?_; rintro e w' ⟨rfl, rfl⟩
                    go_wp2_with fail
                    refine (HSY.out _ _ RY.out).mono ?_; rintro e w' ⟨rfl, rfl⟩
                    go_wp2_with fail
                    simp [bodyPost, results, Try.results62, go_sem, r0, r1]
                    first | exact (KK.out.setCell (p := ⟨w.heap.size, 0, none⟩) (Nat.le_refl _) _).setCell (p := ⟨w.heap.size, 1, none⟩) (Nat.le_refl _) _ | exact KK.out
                · have hbx : bgT L = true := by rw [HTX.out]; exact decide_eq_true (by omega)
                  have hsx : bgS L = 0 := by unfold bgS; rw [hbx]; rfl
                  have hpk : ptK A0 B0 = false := decide_eq_false (fun h => hp h.1)
                  have e1 : PN = 0 := by rw [HPN.out]; unfold ptN; rw [hpk]; rfl
                  have e2 : PD = 0 := by rw [HPD.out]; unfold ptD; rw [hpk]; rfl
                  have e3 : PK = false := by rw [HPK.out]; exact hpk
                  rw [hbx, hsx] at HSX
                  subst e1 e2 e3
                  clear hbx hsx hpk hp
                  go_wp2_with fail
                  refine (HSX.out _ RX.out).mono ?_; rintro e w' ⟨rfl, rfl⟩
                  go_wp2_with fail
                  refine (HSY.out _ _ RY.out).mono ?_; rintro e w' ⟨rfl, rfl⟩
                  go_wp2_with fail
                  simp [bodyPost, results, Try.results62, go_sem, r0, r1]
                  first | exact (KK.out.setCell (p := ⟨w.heap.size, 0, none⟩) (Nat.le_refl _) _).setCell (p := ⟨w.heap.size, 1, none⟩) (Nat.le_refl _) _ | exact KK.out
end Go.Proofs.Ytmhdjimdhcephab

