/- The laws' r8At, r8Same, r8Long; the draw of stuffers. -/
import Derived.Test.YtllkojakeoennaaR8b
import Derived.Test.YtllkojakeoennaaStf
namespace Go.Proofs.Ytllkojakeoennaa
open Go Go.RowKit
set_option linter.unusedVariables false

theorem r8Same_rd (w : World) (v1 v2 : Value) (l : List ByteArray) (h1 : RdS w v1 l) (h2 : RdS w v2 l) :
    Calls Try.prog 46 #[v1, v2] w fun e w' => e = .returned (.bool true) ∧ ∃ q, w' = w.drewN q := by
  have hlen := h1.len
  obtain ⟨A1, n, c1, rfl, hn, -, -, r1⟩ := h1
  obtain ⟨A2, n2, c2, rfl, hn2, -, -, r2⟩ := h2
  obtain rfl : n = n2 := by omega
  have hne : ((n : Int) != (n : Int)) = false := by simp
  have hnl : n ≤ 9223372036854775807 := by unfold maxLen at hlen; omega
  clear hlen
  by_cases h0 : n = 0
  · subst h0
    clear r1 r2
    go_enter Try.func46, Try.ntmps46
    go_wp2
    refine wp_loop_rounds 1 ?_
    rw [rounds_succ]
    go_wp2
    go_ret
    exact ⟨rfl, 0, rfl⟩
  · obtain ⟨b1, o1, rfl, -, k1⟩ := r1 (by omega)
    obtain ⟨b2, o2, rfl, -, k2⟩ := r2 (by omega)
    have K1 := Lib.hid k1
    have K2 := Lib.hid k2
    have HN := Lib.hid hn
    clear r1 r2 k1 k2 hn hn2 h0
    go_enter Try.func46, Try.ntmps46
    go_wp2
    go_loopw [5] (fun i wr => ∃ k q : Nat, k ≤ n ∧ i = .int .i64 k ∧ wr = w.drewN q) (fun i _ => n - (intOf i).toNat)
    case atStart => exact ⟨0, 0, Nat.zero_le _, rfl, rfl⟩
    case round =>
      obtain ⟨k, q, hk, rfl, rfl⟩ := hrel
      by_cases hlt : k < n
      · have hk0 : (0 : Int) ≤ (k : Int) := by omega
        have hk1 : (k : Int) < (n : Int) := by omega
        have hc1 := K1.out k (by have := HN.out; omega)
        have hc2 := K2.out k (by have := HN.out; omega)
        generalize l[k]'(by have := HN.out; omega) = x at hc1 hc2
        go_wp2
        go_quiet (fail)
        go_wp2
        go_roundw
        case rel => exact ⟨k + 1, _, by omega, by go_num, rfl⟩
        case measure => simp [intOf]; omega
      · go_wp2
        go_ret
        exact ⟨rfl, _, rfl⟩

theorem r8Long_any (w : World) (A1 A2 : Option Addr) (n1 c1 n2 c2 : Nat) :
    Calls Try.prog 42 #[.slice A1 n1 c1, .slice A2 n2 c2] w fun e w' => e = .returned (.bool (decide (48 < n1) || decide (48 < n2))) ∧ ∃ q, w' = w.drewN q := by
  by_cases h1 : 48 < n1
  · rw [decide_eq_true h1, Bool.true_or]
    have h1' : (48 : Int) < (n1 : Int) := by omega
    go_enter Try.func42, Try.ntmps42
    go_wp2_with fail
    go_ret
    exact ⟨rfl, 0, rfl⟩
  · rw [decide_eq_false h1, Bool.false_or]
    have h1' : ¬ (48 : Int) < (n1 : Int) := by omega
    by_cases h2 : 48 < n2
    · rw [decide_eq_true h2]
      have h2' : (48 : Int) < (n2 : Int) := by omega
      go_enter Try.func42, Try.ntmps42
      go_wp2_with fail
      go_ret
      exact ⟨rfl, 0, rfl⟩
    · rw [decide_eq_false h2]
      have h2' : ¬ (48 : Int) < (n2 : Int) := by omega
      go_enter Try.func42, Try.ntmps42
      go_wp2_with fail
      go_ret
      exact ⟨rfl, 0, rfl⟩

def r8N (l : List Value) (k t : Nat) : Int := match l[k]? with | some (.int _ y) => y % (t : Int) | _ => 0
set_option maxRecDepth 100000 in
theorem r8At_any (w : World) (v : Value) (l : List Value) (k t : Nat) (ht : 2 ≤ t ∧ t ≤ 1000000) {K : Nat → Prop} (h : RdV K w v l) (hb : ∀ x ∈ l, ∃ y : Int, x = .int .u8 y ∧ 0 ≤ y ∧ y ≤ 255) :
    Calls Try.prog 44 #[v, .int .i64 k, .int .i64 t] w fun e w' => e = .returned (.int .i64 (r8N l k t)) ∧ (0 ≤ r8N l k t ∧ r8N l k t < t) ∧ w = w' := by
  have h1 : ¬ (t : Int) ≤ 1 := by omega
  obtain ⟨A, n, c, rfl, hn, -, hx, hr⟩ := h
  have hml : n ≤ 9223372036854775807 := by unfold maxLen at hx; omega
  by_cases hk : k < n
  · obtain ⟨b, o, rfl, -, -, hc⟩ := hr (by omega)
    have hkl : k < l.length := by omega
    obtain ⟨y, hy, y0, y1⟩ := hb _ (List.getElem_mem hkl)
    have hcj := hc k _ (List.getElem?_eq_getElem hkl)
    rw [hy] at hcj
    have HE : Hid (r8N l k t = y % (t : Int)) := by show _ = _; unfold r8N; rw [List.getElem?_eq_getElem hkl, hy]
    have HR : Hid (0 ≤ y % (t : Int) ∧ y % (t : Int) < t) := ⟨Int.emod_nonneg _ (by omega), Int.emod_lt_of_pos _ (by omega)⟩
    have g1 : ¬ (n : Int) ≤ (k : Int) := by omega
    have g2 : (0 : Int) ≤ (k : Int) := by omega
    have g3 : (k : Int) < (n : Int) := by omega
    have g4 : ((t : Int) == 0) = false := by simp; omega
    have g5 : 0 < (t : Int) := by omega
    have wy : IntKind.i64.wrap y = y := IntWalk.i64_in _ (by omega)
    have wz : IntKind.i64.wrap (y % (t : Int)) = y % (t : Int) := IntWalk.i64_in _ (by have := HR.out; omega)
    rw [HE.out]
    clear hc hn hr hb hy hkl hx HE
    go_enter Try.func44, Try.ntmps44
    go_wp2_with fail
    go_ret
    exact ⟨rfl, HR.out, rfl⟩
  · have HE : Hid (r8N l k t = 0) := by show _ = _; unfold r8N; rw [List.getElem?_eq_none (by omega)]
    have g1 : (n : Int) ≤ (k : Int) := by omega
    rw [HE.out]
    clear hr hn hb hx HE
    go_enter Try.func44, Try.ntmps44
    go_wp2_with fail
    go_ret
    exact ⟨rfl, by omega, rfl⟩

set_option maxRecDepth 100000 in
set_option maxHeartbeats 1000000 in
theorem r8Stuffer_any (w : World) (v : Value) (l : List Value) (h : RdV (· < w.heap.size) w v l) (hb : ∀ x ∈ l, ∃ y : Int, x = .int .u8 y ∧ 0 ≤ y ∧ y ≤ 255) :
    Calls Try.prog 43 #[v] w fun e w' => ∃ a b : Int, e = .returned (.agg #[.int .i64 a, .int .i64 b]) ∧ ((1 ≤ a ∧ a ≤ 5) ∧ (0 ≤ b ∧ b ≤ 1)) ∧ Below w.heap.size w w' := by
  obtain ⟨w0, hw0⟩ : ∃ w0, w0 = w.alloc (.cells #[.int .i64 0, .int .i64 0] 25) := ⟨_, rfl⟩
  have HW0 := Lib.hid hw0
  have k0 : Below w.heap.size w w0 := by rw [hw0]; exact (Below.refl _ _).alloc (Nat.le_refl _) _
  have R0 : Hid (Bk w0 w.heap.size [.int .i64 0, .int .i64 0]) := by show Bk _ _ _; rw [hw0]; exact Bk.new w [.int .i64 0, .int .i64 0] _ _ rfl
  have HF := Lib.hid (src_from v l w0 (by
    obtain ⟨A, n, c, e, hn, h1, h2, h3⟩ := h.keep k0
    refine ⟨A, n, c, e, hn, h1, h2, fun h0 => ?_⟩
    obtain ⟨b, o, ea, hK, hlt, hc⟩ := h3 h0
    exact ⟨b, o, ea, hlt, hlt, hc⟩) hb)
  have HK0 := Lib.hid k0
  clear hb k0 hw0
  obtain ⟨A, n, c, rfl, -⟩ := h
  go_enter Try.func43, Try.ntmps43
  go_wp2_with fail
  rw [← HW0.out]
  refine HF.out.mono ?_; rintro e w1 ⟨rfl, hs1, hb1⟩
  have S1 := Lib.hid hs1
  have B1 := Lib.hid (HK0.out.trans (hb1.mono HK0.out.size))
  have R1 := Lib.hid (R0.out.keep hb1)
  have HL : Hid (w.heap.size < w0.heap.size) := R0.out.2.2
  clear hs1 hb1 R0
  go_wp2_with fail
  refine (src_pick _ _ _ _ _ 5 _ (by decide) (by decide) S1.out).mono ?_; rintro e w2 ⟨r, rfl, ⟨r0, r1, -⟩, hs2, hg2⟩
  have r2 := r1 (by decide)
  have S2 := Lib.hid hs2
  have B2 := Lib.hid (gk_to B1.out hg2 B1.out.size (by have := HL.out; omega))
  have R2 : Hid (Bk w2 w.heap.size [.int .i64 0, .int .i64 0]) := by
    have hb := gk_to (Below.refl (w.heap.size + 1) w1) hg2 R1.out.2.2 (by have := HL.out; omega)
    exact ⟨fun i x hx => (hb.cell (p := ⟨w.heap.size, i, none⟩) (Nat.lt_succ_self _)).trans (R1.out.1 i x hx), fun i hi => (hb.frozen (p := ⟨w.heap.size, i, none⟩) (Nat.lt_succ_self _)).trans (R1.out.2.1 i hi), Nat.lt_of_lt_of_le R1.out.2.2 hg2.size⟩
  have wr : IntKind.i64.wrap (1 + r) = 1 + r := IntWalk.i64_in _ (by omega)
  clear hs2 hg2 S1 B1 R1 r1
  obtain ⟨w3, hw3⟩ : ∃ w3, w3 = w2.alloc (.cells #[.int .i64 (1 + r), .int .i64 0] 25) := ⟨_, rfl⟩
  have HW3 := Lib.hid hw3
  have k3 : Below w2.heap.size w2 w3 := by rw [hw3]; exact (Below.refl _ _).alloc (Nat.le_refl _) _
  have T3 : Hid (Bk w3 w2.heap.size [.int .i64 (1 + r), .int .i64 0]) := by show Bk _ _ _; rw [hw3]; exact Bk.new w2 [.int .i64 (1 + r), .int .i64 0] _ _ rfl
  have S3 := Lib.hid (S2.out.keep k3)
  have B3 := Lib.hid (B2.out.trans (k3.mono B2.out.size))
  have R3 := Lib.hid (R2.out.keep k3)
  clear hw3
  go_wp2_with fail
  rw [← HW3.out]
  refine (src_pick _ _ _ _ _ 2 _ (by decide) (by decide) S3.out).mono ?_; rintro e w4 ⟨t, rfl, ⟨t0, t1, -⟩, hs4, hg4⟩
  have t2 := t1 (by decide)
  have HL2 : Hid (w0.heap.size < w2.heap.size) := S2.out.lt
  have hT : Below (w2.heap.size + 1) w3 w4 ∨ True := .inr trivial
  have mv : ∀ (k : Nat) (cs : List Value), k ≠ w0.heap.size → Bk w3 k cs → Bk w4 k cs := by
    intro k cs hk h
    exact ⟨fun i x hx => (World.cell?_of_block (hg4.block k h.2.2 (fun e => hk (by injection e)))).trans (h.1 i x hx), fun i hi => (World.frozen?_of_block (hg4.block k h.2.2 (fun e => hk (by injection e)))).trans (h.2.1 i hi), Nat.lt_of_lt_of_le h.2.2 hg4.size⟩
  have T4 := Lib.hid (mv _ _ (by have := HL2.out; omega) T3.out)
  have R4 := Lib.hid (mv _ _ (by have := HL.out; omega) R3.out)
  have B4 := Lib.hid (gk_to B3.out hg4 B3.out.size (by have := HL.out; omega))
  have hne : w2.heap.size ≠ w.heap.size := by have := HL.out; have := HL2.out; omega
  have hne' : w.heap.size ≠ w2.heap.size := fun e => hne e.symm
  clear hs4 hg4 S3 B3 R3 T3 t1 mv hT S2 B2 R2
  have q0 := T4.out.c 0 _ rfl
  have q1 := T4.out.c 1 _ rfl
  have f1 := T4.out.f 1 (by show 1 < 2; omega)
  have TS := (T4.out.set 1 (by show 1 < 2; omega) (.int .i64 t))
  have p0 := TS.c 0 _ rfl
  have p1 := TS.c 1 _ rfl
  have RS := R4.out.far (⟨w2.heap.size, 1, none⟩ : Addr) hne (.int .i64 t)
  have r0' := RS.c 0 _ rfl
  have r1' := RS.c 1 _ rfl
  have g0 := RS.f 0 (by show 0 < 2; omega)
  have g1 := RS.f 1 (by show 1 < 2; omega)
  have HRS := Lib.hid RS
  have HB5 := Lib.hid (B4.out.setCell (p := ⟨w2.heap.size, 1, none⟩) (by show w.heap.size ≤ w2.heap.size; have := HL.out; have := HL2.out; omega) (.int .i64 t))
  clear TS RS
  go_wp2_with fail
  have RS2 := (HRS.out.set 0 (by show 0 < 2; omega) (.int .i64 (1 + r))).set 1 (by show 1 < 2; omega) (.int .i64 t)
  have z0 := RS2.c 0 _ rfl
  have z1 := RS2.c 1 _ rfl
  refine bodyPost_ret (v := .agg #[.int .i64 (1 + r), .int .i64 t]) (by simp [results, Try.results43, go_sem, z0, z1]) rfl ⟨1 + r, t, rfl, ⟨⟨by omega, by omega⟩, by omega, by omega⟩, ?_⟩
  exact (HB5.out.setCell (p := ⟨w.heap.size, 0, none⟩) (Nat.le_refl _) _).setCell (p := ⟨w.heap.size, 1, none⟩) (Nat.le_refl _) _
end Go.Proofs.Ytllkojakeoennaa
