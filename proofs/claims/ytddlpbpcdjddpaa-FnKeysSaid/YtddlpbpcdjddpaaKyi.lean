/- The program's KeyBits. -/
import Derived.Test.YtddlpbpcdjddpaaKys
import Derived.Test.YtddlpbpcdjddpaaBls
namespace Go.Proofs.Ytddlpbpcdjddpaa
open Go Go.RowKit Go.Shelf
set_option linter.unusedVariables false
attribute [local go_sem] Oper.semAt_some
def kyOk (l : List Int) (s : List UInt8) (c : Int) : Bool := scOk l s && decide (0 ≤ c ∧ c ≤ 400)
def kyL (l : List Int) (s : List UInt8) (c : Int) : List UInt8 := tx (kb l (stQ s) c.toNat)
def kyV (l : List Int) (s : List UInt8) (c : Int) : ByteArray := if kyOk l s c then ⟨(kyL l s c).toArray⟩ else ⟨#[]⟩
theorem kyV_no {l : List Int} {s : List UInt8} {c : Int} (h : kyOk l s c = false) : kyV l s c = ⟨#[]⟩ := by unfold kyV; rw [h]; rfl
theorem kyV_yes {l : List Int} {s : List UInt8} {c : Int} (h : kyOk l s c = true) : kyV l s c = ⟨(kyL l s c).toArray⟩ := by unfold kyV; rw [h]; rfl

theorem bk_gr {W W' : World} {b r : Nat} {cs : List Value} (h : Bk W b cs) (hg : W.grownBy W' (some r)) (hr : b ≠ r) : Bk W' b cs := by
  have e : W'.heap[b]? = W.heap[b]? := hg.block b h.2.2 (fun e => hr (by injection e))
  refine ⟨fun i x hx => ?_, fun i hi => ?_, Nat.lt_of_lt_of_le h.2.2 hg.size⟩
  · rw [← h.1 i x hx]; simp only [World.cell?, e]
  · rw [← h.2.1 i hi]; simp only [World.frozen?, e]
theorem bk_chg {W W' : World} {b r lo : Nat} {cs : List Value} (h : Bk W b cs) (hg : Chg lo r W W') (hr : b ≠ r) (hl : b < lo) : Bk W' b cs := by
  have e : W'.heap[b]? = W.heap[b]? := hg.block b hl hr
  refine ⟨fun i x hx => ?_, fun i hi => ?_, Nat.lt_of_lt_of_le h.2.2 hg.size⟩
  · rw [← h.1 i x hx]; simp only [World.cell?, e]
  · rw [← h.2.1 i hi]; simp only [World.frozen?, e]
set_option maxRecDepth 100000 in
set_option maxHeartbeats 2000000 in
theorem keyBits_impl (w : World) (v : Value) (l : List Int) (s : ByteArray) (c : Int) (hb : ∀ n ∈ l, -9223372036854775808 ≤ n ∧ n ≤ 9223372036854775807) (hs : s.size ≤ maxLen) (h : Rd w v l) :
    Calls Try.prog 33 #[.agg #[v, .string s], .int .i64 c] w fun e w' =>
      e = .returned (.tuple #[.string (kyV l s.data.toList c), .bool (kyOk l s.data.toList c)]) ∧ Below w.heap.size w w' := by
  have h1 : 1 ≤ 9 := by omega
  obtain ⟨W0, hW0⟩ : ∃ W0, W0 = (w.alloc (.cells #[v, .string s] 28)).alloc (.cells #[.int .i64 c] 2) := ⟨_, rfl⟩
  have hB : Below w.heap.size w W0 := by rw [hW0]; exact ((Below.refl _ _).alloc (Nat.le_refl _) _).alloc (by simp) _
  have HBK : Hid (Bk W0 w.heap.size (scV v s)) := by show Bk _ _ _; rw [hW0]; exact (Bk.new w (scV v s) 28 _ rfl).alloc _
  have HBC : Hid (Bk W0 (w.heap.size + 1) [.int .i64 c]) := by show Bk _ _ _; rw [hW0]; exact Bk.new _ [.int .i64 c] 2 _ (by simp)
  have HRO := Lib.hid (fun W h => ringOf_any W v l s hb hs h)
  have HB := Lib.hid hB
  have HRD := Lib.hid (h.keep hB)
  have HW := Lib.hid hW0
  have hE : kyOk l s.data.toList c = (scOk l s.data.toList && decide (0 ≤ c ∧ c ≤ 400)) := rfl
  obtain ⟨A1, c1, rfl⟩ := rd_shp h
  obtain ⟨n1, hn1⟩ : ∃ n1, n1 = l.length := ⟨_, rfl⟩
  rw [← hn1] at HBK HRD HRO HW ⊢
  clear h hb hs hB hn1 hW0
  cases hok : scOk l s.data.toList
  · rw [hok, Bool.false_and] at hE
    rw [kyV_no hE, hE]
    rw [hok, if_neg (by decide)] at HRO
    clear hE hok
    refine (callsIn_wide (n := 9)).1 ?_
    refine callsIn_of_wp_marks Try.func33 rfl trivial ?_ rfl
    simp only [Try.ntmps33, List.size_toArray, List.length_cons, List.length_nil, Nat.reduceAdd, Nat.reduceSub, Array.replicate_succ, Array.replicate_zero, List.push_toArray, List.append_toArray, List.nil_append, List.cons_append]
    obtain ⟨q0, q1⟩ := sc_all HBK.out
    gi_wp2_with fail
    rw [← HW.out]
    refine ⟨trivial, (callsIn_wide.2 (HRO.out _ HRD.out)).mono ?_⟩; rintro e w1 ⟨rfl, hb1⟩
    have HB1 := Lib.hid ((HB.out.trans (hb1.mono HB.out.size)).alloc (by have := HB.out.size; have := hb1.size; omega) (.cells #[.int .u16 0, .int .u16 0, .int .i64 0, .int .i64 0] 67))
    clear hb1 q0 q1
    gi_wp2_with fail
    (rename_i K9 hK9; (first | refine hK9 _ _ ?_ | refine ⟨trivial, hK9 _ _ ?_⟩); clear hK9 K9; gi_wp2_with fail)
    try (rename_i K9 hK9; (first | refine hK9 _ _ ?_ | refine ⟨trivial, hK9 _ _ ?_⟩); clear hK9 K9; gi_wp2_with fail)
    try (rename_i K9 hK9; (first | refine hK9 _ _ ?_ | refine ⟨trivial, hK9 _ _ ?_⟩); clear hK9 K9; gi_wp2_with fail)
    refine ⟨_, results_tmp2 rfl _ _ _, rfl, HB1.out⟩
  · rw [hok, Bool.true_and] at hE
    rw [hok, if_pos rfl] at HRO
    obtain ⟨hp1, hp2, hp3⟩ := scOk_parts hok
    obtain ⟨hp4, hp5⟩ := isB_r hp2
    have hpw := tpOk_wid hp1
    have hsz : (stQ s.data.toList).length = s.size := by rw [stQ_len]; simp
    have hwid : wid l ≤ ((stQ s.data.toList).length : Int) := by rw [stQ_len]; omega
    have hQ := stQ_bits hp5
    have HKL : Hid (kyL l s.data.toList c = tx (kb l (stQ s.data.toList) c.toNat)) := rfl
    rw [show ((s.size % 16 : Nat) : Int) = ((km l (stQ s.data.toList) 0 : Nat) : Int) from by unfold km kq; rw [hsz], show rg (stQ s.data.toList) = rg (kq l (stQ s.data.toList) 0) from rfl] at HRO
    by_cases hc : 0 ≤ c ∧ c ≤ 400
    rotate_left
    · rw [decide_eq_false hc] at hE
      rw [kyV_no hE, hE]
      have HC := Lib.hid hc
      clear hE hok hp1 hp2 hp3 hp4 hp5 hpw hwid hQ hc
      generalize stQ s.data.toList = Q at *
      refine (callsIn_wide (n := 9)).1 ?_
      refine callsIn_of_wp_marks Try.func33 rfl trivial ?_ rfl
      simp only [Try.ntmps33, List.size_toArray, List.length_cons, List.length_nil, Nat.reduceAdd, Nat.reduceSub, Array.replicate_succ, Array.replicate_zero, List.push_toArray, List.append_toArray, List.nil_append, List.cons_append]
      obtain ⟨q0, q1⟩ := sc_all HBK.out
      gi_wp2_with fail
      rw [← HW.out]
      refine ⟨trivial, (callsIn_wide.2 (HRO.out _ HRD.out)).mono ?_⟩; rintro e w1 ⟨rfl, hb1⟩
      have HB1 := Lib.hid ((HB.out.trans (hb1.mono HB.out.size)).alloc (by have := HB.out.size; have := hb1.size; omega) (.cells #[.int .u16 (rg (kq l Q 0)), .int .u16 (tm l), .int .i64 s.size, .int .i64 (km l Q 0 : Nat)] 67))
      have hbc := (HBC.out.keep hb1).alloc (.cells #[.int .u16 (rg (kq l Q 0)), .int .u16 (tm l), .int .i64 s.size, .int .i64 (km l Q 0 : Nat)] 67)
      have cc := hbc.c 0 _ rfl
      clear hb1 q0 q1 hbc
      gi_wp2_with fail
      refine ⟨trivial, (callsIn_wide.2 (btw_no _ _ _ _ HC.out)).mono ?_⟩; rintro e w2 ⟨rfl, rfl⟩
      gi_wp2_with fail
      refine ⟨_, results_tmp2 rfl _ _ _, rfl, HB1.out⟩
    · rw [decide_eq_true hc] at hE
      rw [kyV_yes hE, hE]
      obtain ⟨n, rfl⟩ : ∃ n : Nat, c = (n : Int) := ⟨c.toNat, by omega⟩
      obtain ⟨hc1, hc2⟩ := hc
      rw [Int.toNat_natCast] at HKL
      have hn : n ≤ 400 := by omega
      clear hE hok hp2 hp3 hp4 hp5 hpw
      generalize stQ s.data.toList = Q at *
      have HKE := Lib.hid (fun W B b hB hb => alongKey_endless 8 (by omega) n B b W l Q s.size hp1 hQ hwid hB (by omega) hb)
      have HSU := Lib.hid (fun k W => sum_any (rg (kq l Q k)) (tm l) (km l Q k) s.size (rg_lt _) (tmF_lt l 0 (by omega) (fun t h => (of_decide_eq_true (List.all_eq_true.1 (tpOk_parts hp1).2.2 t h) : 1 ≤ t ∧ t ≤ 16).1)) (Nat.mod_lt _ (by omega)) W)
      have HSM := Lib.hid (fun k => ring_sum (l := l) (q := kq l Q k) hp1 (kq_ok hQ k).1 (by rw [(kq_ok hQ k).2]; omega))
      have HSL := Lib.hid (fun k => sm_le (kq_ok (l := l) hQ k).1 l)
      have HKS := Lib.hid (fun k => kb_succ (l := l) hQ k)
      have HKN := Lib.hid (fun k => kb_len (l := l) hQ k)
      have HK0 := Lib.hid (kb_zero l Q)
      clear hp1 hQ hwid
      obtain ⟨T, hT⟩ : ∃ T, T = tm l := ⟨_, rfl⟩
      rw [← hT] at HRO HKE HSU HSM
      clear hT
      refine (callsIn_wide (n := 9)).1 ?_
      refine callsIn_of_wp_marks Try.func33 rfl trivial ?_ rfl
      simp only [Try.ntmps33, List.size_toArray, List.length_cons, List.length_nil, Nat.reduceAdd, Nat.reduceSub, Array.replicate_succ, Array.replicate_zero, List.push_toArray, List.append_toArray, List.nil_append, List.cons_append]
      obtain ⟨q0, q1⟩ := sc_all HBK.out
      gi_wp2_with fail
      rw [← HW.out]
      refine ⟨trivial, (callsIn_wide.2 (HRO.out _ HRD.out)).mono ?_⟩; rintro e w1 ⟨rfl, hb1⟩
      have HB1 := Lib.hid (HB.out.trans (hb1.mono HB.out.size))
      have HC1 := Lib.hid (HBC.out.keep hb1)
      have HLW : Hid (w.heap.size + 1 < w1.heap.size) := HC1.out.2.2
      clear hb1 q0 q1 HRO HRD HBK HBC HB HW
      obtain ⟨W2, hW2⟩ : ∃ W2, W2 = w1.alloc (.cells #[.int .u16 (rg (kq l Q 0)), .int .u16 T, .int .i64 s.size, .int .i64 (km l Q 0 : Nat)] 67) := ⟨_, rfl⟩
      have k2 : Below w1.heap.size w1 W2 := by rw [hW2]; exact (Below.refl _ _).alloc (Nat.le_refl _) _
      have r2 : Blk W2 w1.heap.size 67 (rgV (rg (kq l Q 0)) T s.size (km l Q 0 : Nat)) := by rw [hW2]; exact Blk.new w1 (rgV (rg (kq l Q 0)) T s.size (km l Q 0 : Nat)) _ _ rfl
      have z2 : W2.heap.size = w1.heap.size + 1 := by rw [hW2]; simp
      have HC2 := Lib.hid (HC1.out.keep k2)
      have cc := HC2.out.c 0 _ rfl
      have HW2 := Lib.hid hW2
      rw [hW2] at cc
      clear hW2
      gi_wp2_with fail
      rw [← HW2.out]
      refine ⟨trivial, (callsIn_wide.2 (btw_yes _ _ _ _ hc1 hc2)).mono ?_⟩; rintro e w3 ⟨rfl, rfl⟩
      obtain ⟨W3, hW3⟩ : ∃ W3, W3 = W2.alloc (.cells #[.pointer none, .slice none 0 0] 84) := ⟨_, rfl⟩
      have k3 : Below W2.heap.size W2 W3 := by rw [hW3]; exact (Below.refl _ _).alloc (Nat.le_refl _) _
      have r3 := r2.keep k3
      have z3 : W3.heap.size = w1.heap.size + 2 := by rw [hW3]; simp [z2]
      have b3 : Blk W3 (w1.heap.size + 1) 84 [.pointer none, .slice none 0 0] := by rw [hW3, ← z2]; exact Blk.new W2 [.pointer none, .slice none 0 0] _ _ rfl
      obtain ⟨q0, q1, q2, q3⟩ := rgb_all r3
      rw [hW3] at q0 q1 q2 q3
      have HW3 := Lib.hid hW3
      have HB3 := Lib.hid (HB1.out.trans ((k2.trans (k3.mono k2.size)).mono HB1.out.size))
      have HC3 := Lib.hid (HC2.out.keep k3)
      clear hW3 r2 r3 k2 k3 cc HC1 HC2
      gi_wp2_with fail
      rw [← HW3.out]
      refine ⟨trivial, (callsIn_wide.2 (alongKey_any _ _ _ _ _)).mono ?_⟩; rintro e w4 ⟨rfl, rfl⟩
      clear q0 q1 q2 q3
      obtain ⟨W4, hW4⟩ : ∃ W4, W4 = W3.alloc (.cells #[.int .u16 (rg (kq l Q 0)), .int .u16 T, .int .i64 s.size, .int .i64 (km l Q 0 : Nat)] 67) := ⟨_, rfl⟩
      have k4 : Below W3.heap.size W3 W4 := by rw [hW4]; exact (Below.refl _ _).alloc (Nat.le_refl _) _
      have r4 : Blk W4 W3.heap.size 67 (rgV (rg (kq l Q 0)) T s.size (km l Q 0 : Nat)) := by rw [hW4]; exact Blk.new W3 (rgV (rg (kq l Q 0)) T s.size (km l Q 0 : Nat)) _ _ rfl
      have z4 : W4.heap.size = w1.heap.size + 3 := by rw [hW4]; simp [z3]
      have b4 := b3.keep k4
      have HB4 := Lib.hid (HB3.out.trans (k4.mono HB3.out.size))
      have HC4 := Lib.hid (HC3.out.keep k4)
      rw [← hW4]
      clear hW4 k4 b3 HB3 HC3 HW3 HW2
      gi_wp2_with fail
      have HLO : Hid (w1.heap.size + 1 < W4.heap.size ∧ w.heap.size + 1 < W4.heap.size ∧ w.heap.size + 1 < w1.heap.size) := by show _ ∧ _ ∧ _; have := HLW.out; have := HC4.out.2.2; exact ⟨by omega, by omega, by omega⟩
      have HR4 : Hid (Blk W4 (w1.heap.size + 2) 67 (rgV (rg (kq l Q 0)) T s.size (km l Q 0 : Nat))) := by show Blk _ _ _ _; rw [← z3]; exact r4
      clear r4 z4 z3 z2
      refine rf_endless (F := Fence.wide) (n := 9) rfl h1 (gf := 78) (lb := #[.pointer (some ⟨w1.heap.size + 2, 0, none⟩)]) rfl trivial (enters_of Try.func78 (by kernel_rfl) rfl)
        (HKE.out W4 (w1.heap.size + 2) (w1.heap.size + 1) HR4.out HLO.out.1) (fun _ => rfl) HLO.out.1 (.exit 0)
        (fun k W => k ≤ n ∧ BlR (W4.heap.size + 3) (w1.heap.size + 1) (Lib.byteCells (tx (kb l Q k))) W ∧ (k = 0 → Blk W (w1.heap.size + 1) 84 [.pointer none, .slice none 0 0]) ∧ Bk W (w.heap.size + 1) [.int .i64 n] ∧ Below w.heap.size w W)
        (fun k W => k = n ∧ BlR (W4.heap.size + 3) (w1.heap.size + 1) (Lib.byteCells (tx (kb l Q n))) W ∧ (n = 0 → Blk W (w1.heap.size + 1) 84 [.pointer none, .slice none 0 0]) ∧ Below w.heap.size w W)
        (fun k W h => h.1) ?hI ?hX ⟨Nat.zero_le _, ?h0, fun _ => b4, HC4.out, HB4.out⟩
        (fun k a' W => ∃ p, W4.heap.size + 3 ≤ p ∧ a' = { tmps := #[.agg #[.slice A1 n1 c1, .string s], .int .i64 n, .pointer (some ⟨w.heap.size, 0, none⟩), .pointer (some ⟨w.heap.size + 1, 0, none⟩), .string ⟨#[]⟩, .bool false, .pointer (some ⟨w1.heap.size, 0, none⟩), .bool true, .pointer (some ⟨w1.heap.size + 1, 0, none⟩), .int .i64 k, .pointer (some ⟨p, 0, none⟩), .tuple #[.agg #[.int .u16 (rg (kq l Q 0)), .int .u16 T, .int .i64 s.size, .int .i64 (km l Q 0 : Nat)], .bool true], .agg #[.slice A1 n1 c1, .string s], .tuple #[.agg #[.int .u16 (rg (kq l Q 0)), .int .u16 T, .int .i64 s.size, .int .i64 (km l Q 0 : Nat)], .bool true], .agg #[.int .u16 (rg (kq l Q 0)), .int .u16 T, .int .i64 s.size, .int .i64 (km l Q 0 : Nat)], .bool true, .bool true, .bool false, .bool false, .int .i64 n, .bool true, .bool false, .bool false, .agg #[.int .u16 (rg (kq l Q 0)), .int .u16 T, .int .i64 s.size, .int .i64 (km l Q 0 : Nat)], .func (.func 78) #[] #[.pointer (some ⟨w1.heap.size + 2, 0, none⟩)], .int .i64 k, .agg #[.int .u16 (rg (kq l Q k)), .int .u16 T, .int .i64 s.size, .int .i64 (km l Q k : Nat)], undef, undef, undef, undef, undef, undef, undef, undef], defers := [] } ∧ Blk W p 67 (rgV (rg (kq l Q k)) T s.size (km l Q k : Nat))) ?hAx ?assign ?body ?stop
      case hI =>
        rintro k A B r ⟨a1, a2, a3, a4, a5⟩ r1 r2 hg
        have hlo := HLO.out
        refine ⟨a1, a2.chg hg (by omega) (by omega), fun e => (a3 e).grown hg (by intro h; injection h; omega), bk_gr a4 hg (by omega), a5.grown hg (by have := HB4.out.size; have := a5.size; omega) (fun k hk => by injection hk with hk; have := HB4.out.size; omega)⟩
      case hX =>
        rintro k A B r ⟨a1, a2, a3, a5⟩ r1 r2 hg
        have hlo := HLO.out
        exact ⟨a1, a2.chg hg (by omega) (by omega), fun e => (a3 e).grown hg (by intro h; injection h; omega), a5.grown hg (by have := HB4.out.size; have := a5.size; omega) (fun k hk => by injection hk with hk; have := HB4.out.size; omega)⟩
      case h0 =>
        rw [HK0.out]
        exact BlR.start b4 (by have := HLO.out; omega)
      case hAx =>
        rintro k a' A B r ⟨p, p1, p2, p3⟩ r1 r2 hg
        exact ⟨p, p1, p2, p3.grown hg (by intro h; injection h; omega)⟩
      case assign =>
        intro ll k W K hsz hi hK
        dsimp only [kEnc]
        gi_wp2_with fail
        refine hK _ _ ((Below.refl _ _).alloc (Nat.le_refl _) _) ⟨W.heap.size, hsz, rfl, Blk.new W (rgV (rg (kq l Q k)) T s.size (km l Q k : Nat)) _ _ rfl⟩
      case body =>
        rintro ll k a' W hsz ⟨a1, a2, a3, a4, a5⟩ ⟨p, p1, rfl, p3⟩
        have cc := a4.c 0 _ rfl
        by_cases hkn : k = n
        · subst hkn
          have ht : ((k : Int) == (k : Int)) = true := by simp
          gi_wp2_with fail
          refine ⟨rfl, Chg.of_below (Below.refl _ _) (Nat.le_refl _), ?_⟩
          first | exact ⟨rfl, a2, a3, a5⟩ | exact ⟨a2, a3, a5⟩
        · have hkl : k < n := by omega
          have ht : ((k : Int) == (n : Int)) = false := beq_f (by omega)
          have hsl := HSL.out k
          have HSC := Lib.hid (HSU.out k)
          rw [show pop (rg (kq l Q k) &&& rot T (km l Q k)) % 2 = sm l (kq l Q k) from HSM.out k] at HSC
          have HKK := Lib.hid (HKS.out k)
          have hkn2 := HKN.out k
          have HWB : Hid ((48 + ((sm l (kq l Q k) : Nat) : Int)) % 256 = 48 + ((sm l (kq l Q k) : Nat) : Int)) := by show _ = _; omega
          have HTX := Lib.hid (tx_byte hsl)
          generalize sm l (kq l Q k) = z at *
          obtain ⟨q0, q1, q2, q3⟩ := rgb_all p3
          have A2 := Lib.hid a2
          have A4 := Lib.hid a4
          have A5 := Lib.hid a5
          have HSZ := Lib.hid hsz
          clear a2 a3 a4 a5 p3 hsz
          gi_wp2_with fail
          refine ⟨trivial, (CallsIn.inRound ll (callsIn_wide.2 (HSC.out _))).mono ?_⟩; rintro e w6 ⟨rfl, hb6⟩
          have A26 := Lib.hid (A2.out.keep hb6)
          have A46 := Lib.hid (A4.out.keep hb6)
          have A56 := Lib.hid (A5.out.trans (hb6.mono A5.out.size))
          have HC6 : Hid (Chg (W4.heap.size + 3) (w1.heap.size + 1) W w6) := Chg.of_below hb6 HSZ.out
          have HS6 : Hid (W4.heap.size + 3 ≤ w6.heap.size) := Nat.le_trans HSZ.out hb6.size
          clear hb6 q0 q1 q2 q3 cc
          gi_wp2_with fail
          refine ⟨trivial, (CallsIn.inRound ll (callsIn_wide.2 (blr_b (W4.heap.size + 3) (w1.heap.size + 1) _ (48 + (z : Int)) _ A26.out (by rw [bcs_len, tx_len, hkn2]; omega) HS6.out))).mono ?_⟩; rintro e w7 ⟨rfl, hbl, hc7⟩
          have hlo := HLO.out
          have HC7 := Lib.hid (HC6.out.trans hc7)
          have HBL : Hid (BlR (W4.heap.size + 3) (w1.heap.size + 1) (Lib.byteCells (tx (kb l Q (k + 1)))) w7) := by
            show BlR _ _ _ _
            rw [HKK.out, tx_snoc, ← bcs_snoc _ _ _ HTX.out]; exact hbl
          have HBC7 : Hid (Bk w7 (w.heap.size + 1) [.int .i64 n]) := bk_chg A46.out hc7 (by omega) (by omega)
          have HBW7 : Hid (Below w.heap.size w w7) := A56.out.trans (hc7.below (by omega) (by omega))
          clear hbl hc7 A26 A46 A56 HC6
          gi_wp2_with fail
          first
            | exact ⟨HC7.out, by omega, HBL.out, HBC7.out, HBW7.out⟩
            | exact ⟨HC7.out, by omega, HBL.out, fun e => absurd e (by omega), HBC7.out, HBW7.out⟩
      case stop =>
        rintro k W ⟨rfl, a2, a3, a5⟩ hD
        have hlo := HLO.out
        have HSTR : Hid (Calls Try.prog 68 #[.pointer (some ⟨w1.heap.size + 1, 0, none⟩)] W fun e w' => e = .returned (.string ⟨(kyL l s.data.toList k).toArray⟩) ∧ Below (W4.heap.size + 3) W w') := by
          show Calls _ _ _ _ _
          rw [HKL.out]
          rcases Nat.eq_zero_or_pos k with h0 | h0
          · subst h0
            rw [HK0.out]
            exact blr_str0 _ _ _ W (a3 rfl)
          · exact blr_str _ _ (tx (kb l Q k)) W a2 (by intro e; have := HKN.out k; rw [← tx_len, e] at this; simp at this; omega)
        have HD := Lib.hid hD
        have A5 := Lib.hid a5
        clear a2 a3 hD a5
        gi_wp2_with fail
        refine ⟨trivial, (callsIn_wide.2 HSTR.out).mono ?_⟩; rintro e w7 ⟨rfl, hb7⟩
        have hD7 : w7.heap[W4.heap.size]? = some (.deferred (some [])) := (hb7.block _ (by omega)).trans HD.out
        have HB7 : Hid (Below w.heap.size w w7) := A5.out.trans (hb7.mono (by omega))
        clear hb7
        gi_wp2_with fail
        refine ⟨by simp, .inl ⟨_, _, rfl, run_takeDeferred hD7, ?_⟩⟩
        refine ⟨_, results_tmp2 rfl _ _ _, rfl, HB7.out.grown (gb_put _ _ _) (by have := HB7.out.size; have := HB4.out.size; omega) (fun k hk => by injection hk with hk; have := HB4.out.size; omega)⟩
end Go.Proofs.Ytddlpbpcdjddpaa
