/- The program's scrambleBy. -/
import Derived.Test.YtddlpbpcdjddpaaRgo
import Derived.Test.YtddlpbpcdjddpaaShelf
namespace Go.Proofs.Ytddlpbpcdjddpaa
open Go Go.RowKit
set_option linter.unusedVariables false
theorem bcs_snoc (M : List UInt8) (c : UInt8) (x : Int) (hx : (c.toNat : Int) = x) : Lib.byteCells M ++ [.int .u8 x] = Lib.byteCells (M ++ [c]) := by simp [Lib.byteCells, ← hx]
theorem bcs_len (M : List UInt8) : (Lib.byteCells M).length = M.length := by simp [Lib.byteCells]
/-- What the loop of scrambleBy holds: the builder in the block B, the ring in the block R. -/
structure SR (R B : Nat) (w2 : World) (T : Nat) (sz : Int) (q M : List Nat) (wr : World) : Prop where
  bld : Lib.IsBuilder 84 5 B B (Lib.byteCells (tx M)) wr
  ring : Blk wr R 67 (rgV (rg q) T sz (q.length % 16 : Nat))
  bel : Below R w2 wr
  size : B ≤ wr.heap.size
theorem SR.keep {R B : Nat} {w2 : World} {T : Nat} {sz : Int} {q M : List Nat} {wr w' : World} (h : SR R B w2 T sz q M wr) (hR : R ≤ wr.heap.size) (hb : Below wr.heap.size wr w') : SR R B w2 T sz q M w' :=
  ⟨isBl_keep h.bld hb, h.ring.keep hb, h.bel.trans (hb.mono hR), Nat.le_trans h.size hb.size⟩
theorem SR.write {R B : Nat} {w2 : World} {T : Nat} {sz : Int} {q M : List Nat} {wr w' : World} (h : SR R B w2 T sz q M wr) (hR : R < B) (m : Nat) (hm : m ≤ 1)
    (hb : Lib.IsBuilder 84 5 B B (Lib.byteCells (tx M) ++ [.int .u8 (48 + (m : Int))]) w') (hw : Below B wr w') (hr : Wr 5 B wr w') : SR R B w2 T sz q (M ++ [m]) w' :=
  ⟨by rw [tx_snoc, ← bcs_snoc (tx M) _ _ (tx_byte hm)]; exact hb, h.ring.wr hr (by decide) (by omega), h.bel.trans (hw.mono (by omega)), Nat.le_trans h.size hw.size⟩
theorem SR.push {R B : Nat} {w2 : World} {T : Nat} {sz : Int} {q M : List Nat} {wr w' : World} (h : SR R B w2 T sz q M wr) (hR : R < B) (b : Nat)
    (hk : Blk w' R 67 (rgV (rgS (rg q) (q.length % 16) b) T sz ((q.length % 16 + 1) % 16 : Nat))) (hg : wr.grownBy w' (some R)) (hRw : R ≤ wr.heap.size) : SR R B w2 T sz (q ++ [b]) M w' := by
  refine ⟨isBl_grown h.bld hg h.ring (by decide) (by omega), ?_, h.bel.grown hg hRw (fun k hk => by injection hk with hk; omega), Nat.le_trans h.size hg.size⟩
  rw [rg_snoc, ← rgS_mod, List.length_append, show (q.length + [b].length) % 16 = (q.length % 16 + 1) % 16 from by simp]
  exact hk

theorem made_fn (a b : Int) (w : World) : Calls Try.prog 64 #[.int .u8 a, .int .u8 b] w fun e w' => e = .returned (.int .u8 b) ∧ w = w' := by
  go_enter Try.func64, Try.ntmps64
  go_wp2
  go_ret
  exact ⟨rfl, rfl⟩
theorem given_fn (a b : Int) (w : World) : Calls Try.prog 65 #[.int .u8 a, .int .u8 b] w fun e w' => e = .returned (.int .u8 a) ∧ w = w' := by
  go_enter Try.func65, Try.ntmps65
  go_wp2
  go_ret
  exact ⟨rfl, rfl⟩

set_option maxRecDepth 100000 in
set_option maxHeartbeats 2000000 in
theorem scrambleBy_made (w : World) (v : Value) (l : List Int) (s g : ByteArray) (hb : ∀ n ∈ l, -9223372036854775808 ≤ n ∧ n ≤ 9223372036854775807) (hs : s.size ≤ maxLen) (hg : g.size ≤ maxLen) (h : Rd w v l) :
    Calls Try.prog 63 #[.agg #[v, .string s], .string g, .func (.func 64) #[] #[]] w fun e w' =>
      e = .returned (.tuple #[.string (scbV false l s.data.toList g.data.toList), .bool (scbOk l s.data.toList g.data.toList)]) ∧ Below w.heap.size w w' := by
  have hB : Below w.heap.size w (w.alloc (.cells #[v, .string s] 28)) := (Below.refl _ _).alloc (Nat.le_refl _) _
  have HBK : Hid (Bk (w.alloc (.cells #[v, .string s] 28)) w.heap.size (scV v s)) := Bk.new w (scV v s) 28 _ rfl
  have HRO := Lib.hid (fun W h => ringOf_any W v l s hb hs h)
  have HIB := Lib.hid (fun W => isBits_any g W hg)
  have HB := Lib.hid hB
  have HRD := Lib.hid (h.keep hB)
  have hE : scbOk l s.data.toList g.data.toList = (scOk l s.data.toList && isB g.data.toList) := rfl
  obtain ⟨A1, c1, rfl⟩ := rd_shp h
  obtain ⟨n1, hn1⟩ : ∃ n1, n1 = l.length := ⟨_, rfl⟩
  rw [← hn1] at HBK HB HRD HRO ⊢
  clear h hb hs hB hn1
  cases hok : scOk l s.data.toList
  · rw [hok, Bool.false_and] at hE
    rw [scbV_no hE, hE]
    rw [hok, if_neg (by decide)] at HRO
    clear hE hok HIB hg
    go_enter Try.func63, Try.ntmps63
    obtain ⟨q0, q1⟩ := sc_all HBK.out
    go_wp2_with fail
    refine (HRO.out _ HRD.out).mono ?_; rintro e w1 ⟨rfl, hb1⟩
    have HB1 := Lib.hid ((HB.out.trans (hb1.mono HB.out.size)).alloc (by have := HB.out.size; have := hb1.size; omega) (.cells #[.int .u16 0, .int .u16 0, .int .i64 0, .int .i64 0] 67))
    clear hb1 q0 q1
    go_wp2_with fail
    go_ret2
    exact ⟨rfl, HB1.out⟩
  · rw [hok, Bool.true_and] at hE
    rw [hok, if_pos rfl] at HRO
    obtain ⟨hp1, hp2, hp3⟩ := scOk_parts hok
    obtain ⟨hp4, hp5⟩ := isB_r hp2
    have hpw := tpOk_wid hp1
    have hsz : (stQ s.data.toList).length = s.size := by rw [stQ_len]; simp
    have hwid : wid l ≤ ((stQ s.data.toList).length : Int) := by rw [stQ_len]; omega
    have hQ := stQ_bits hp5
    have htm : tm l < 65536 := tmF_lt l 0 (by omega) (fun t ht => (of_decide_eq_true (List.all_eq_true.1 (tpOk_parts hp1).2.2 t ht) : 1 ≤ t ∧ t ≤ 16).1)
    cases hok2 : isB g.data.toList
    · rw [hok2] at hE HIB
      rw [scbV_no hE, hE]
      clear hE hok hok2 hp1 hp2 hp3 hp4 hp5 hg
      generalize stQ s.data.toList = Q at *
      go_enter Try.func63, Try.ntmps63
      obtain ⟨q0, q1⟩ := sc_all HBK.out
      go_wp2_with fail
      refine (HRO.out _ HRD.out).mono ?_; rintro e w1 ⟨rfl, hb1⟩
      have HB1 := Lib.hid ((HB.out.trans (hb1.mono HB.out.size)).alloc (by have := HB.out.size; have := hb1.size; omega) (.cells #[.int .u16 (rg Q), .int .u16 (tm l), .int .i64 s.size, .int .i64 (s.size % 16 : Nat)] 67))
      clear hb1 q0 q1
      go_wp2_with fail
      refine (HIB.out _).mono ?_; rintro e w2 ⟨rfl, hb2⟩
      have HB2 := Lib.hid (HB1.out.trans (hb2.mono HB1.out.size))
      clear hb2
      go_wp2_with fail
      go_ret2
      exact ⟨rfl, HB2.out⟩
    · rw [hok2] at hE HIB
      rw [scbV_yes hE, hE]
      obtain ⟨hp6, hp7⟩ := isB_r hok2
      have hgs : g.size ≤ 400 := by simpa using hp6
      have HIN := Lib.hid (fun k hk => inR_at 48 49 g k hk hp7)
      have HOK := Lib.hid (fun k => scF_ok false l (stQ s.data.toList) hQ (gb (g.data.toList.take k)) (gb_bits (inR_take 48 49 g k hp7)))
      have HST := Lib.hid (fun k hk => scF_take false l (stQ s.data.toList) g k hk)
      have HALL := Lib.hid (fun k hk => take_all g k hk)
      have HSM := Lib.hid (fun (q : List Nat) hq hw => ring_sum (l := l) (q := q) hp1 hq hw)
      have HSL := Lib.hid (fun (q : List Nat) (hq : bitsN q) => sm_le hq l)
      have HWI := Lib.hid hwid
      have HL : Hid (scbL false l s.data.toList g.data.toList = tx (scF false l (stQ s.data.toList) (gb g.data.toList)).2) := rfl
      generalize scbL false l s.data.toList g.data.toList = LL at *
      have hs16 : s.size ≤ 16 := by
        have : (s.data.toList.length : Int) = s.size := by simp
        omega
      clear hE hok hok2 hp1 hp2 hp3 hp4 hp5 hp6 hp7 hg hwid hQ hpw
      obtain ⟨X, hX⟩ : ∃ X : Nat, X = rg (stQ s.data.toList) := ⟨_, rfl⟩
      have HX := Lib.hid hX
      rw [← hX] at HRO
      obtain ⟨T, hT⟩ : ∃ T : Nat, T = tm l := ⟨_, rfl⟩
      rw [← hT] at HRO HSM htm
      clear hX hT
      generalize stQ s.data.toList = Q at *
      obtain ⟨Y, hY⟩ : ∃ Y : Nat, Y = s.size % 16 := ⟨_, rfl⟩
      have HY := Lib.hid hY
      rw [← hY] at HRO
      clear hY
      go_enter Try.func63, Try.ntmps63
      obtain ⟨q0, q1⟩ := sc_all HBK.out
      go_wp2_with fail
      refine (HRO.out _ HRD.out).mono ?_; rintro e w1 ⟨rfl, hb1⟩
      have HB1 := Lib.hid (HB.out.trans (hb1.mono HB.out.size))
      clear hb1 q0 q1 HRD HBK HRO
      obtain ⟨W2, hW2⟩ : ∃ W2, W2 = w1.alloc (.cells #[.int .u16 X, .int .u16 T, .int .i64 s.size, .int .i64 Y] 67) := ⟨_, rfl⟩
      have HRB : Hid (Blk W2 w1.heap.size 67 (rgV X T s.size Y)) := by show Blk _ _ _ _; rw [hW2]; exact Blk.new w1 (rgV X T s.size Y) 67 _ rfl
      have HB2 : Hid (Below w1.heap.size w1 W2) := by show Below _ _ _; rw [hW2]; exact (Below.refl _ _).alloc (Nat.le_refl _) _
      have HW2 := Lib.hid hW2
      clear hW2
      go_wp2_with fail
      rw [← HW2.out]
      refine (HIB.out _).mono ?_; rintro e w3 ⟨rfl, hb3⟩
      have HB3 := Lib.hid (HB2.out.trans (hb3.mono HB2.out.size))
      have HR3 := Lib.hid (HRB.out.keep hb3)
      have HLT : Hid (w1.heap.size < w3.heap.size) := HR3.out.lt
      clear hb3 HRB HB2 HW2
      have kb : Below w3.heap.size w3 (w3.alloc (.cells #[.pointer none, .slice none 0 0] 84)) := (Below.refl _ _).alloc (Nat.le_refl _) _
      have hsr : SR w1.heap.size w3.heap.size w1 T s.size Q [] (w3.alloc (.cells #[.pointer none, .slice none 0 0] 84)) :=
        ⟨Lib.fresh_isBuilder _ _ w3, by have := HR3.out.keep kb; rw [HX.out, HY.out, ← hsz] at this; rw [hsz] at *; exact this, HB3.out.trans (kb.mono HB3.out.size), kb.size⟩
      have HSR := Lib.hid hsr
      clear kb hsr HR3
      go_wp2_with fail
      go_loopw [28] (fun i wr => ∃ (k : Nat) (q M : List Nat), k ≤ g.size ∧ i = .int .i64 k ∧ scF false l Q (gb (g.data.toList.take k)) = (q, M) ∧ SR w1.heap.size w3.heap.size w1 T s.size q M wr) (fun i _ => g.size - (intOf i).toNat)
      case atStart => exact ⟨0, Q, [], Nat.zero_le _, rfl, rfl, HSR.out⟩
      case round =>
        obtain ⟨k, q, M, hk, rfl, hst, hsr⟩ := hrel
        have hok := HOK.out k
        rw [hst] at hok
        obtain ⟨o1, o2, o3, o4⟩ := hok
        simp only at o1 o2 o3 o4
        rw [gb_len] at o3 o4
        have HM := Lib.hid hst
        have HS := Lib.hid hsr
        have hlen : M.length ≤ 400 := by rw [o4, List.length_take]; omega
        have HO1 := Lib.hid o1
        have hql : q.length % 16 < 16 := Nat.mod_lt _ (by omega)
        have HSU := Lib.hid (HSM.out q o1 (by have := HWI.out; omega))
        have hz := HSL.out q o1
        have hbs : w3.heap.size ≤ wr.heap.size := hsr.size
        clear hst hsr o1 o2 o3 o4
        by_cases hlt : k < g.size
        · have hST := HST.out k hlt
          rw [HM.out] at hST
          have hIN := HIN.out k hlt
          have hk0 : (0 : Int) ≤ (k : Int) := by omega
          have hk1 : (k : Int) < (g.size : Int) := by omega
          obtain ⟨y, hy⟩ : ∃ y, g[k].toNat = y := ⟨_, rfl⟩
          rw [hy] at hST hIN
          have HY2 := Lib.hid hy
          obtain ⟨x, rfl⟩ : ∃ x, y = x + 48 := ⟨y - 48, by omega⟩
          have hx : x ≤ 1 := by omega
          rw [show x + 48 - 48 = x from by omega] at hST
          have HT := Lib.hid hST
          have HCV : Hid ((((x + 48 : Nat) : Int) - 48) % 256 = (x : Int)) := by show _ = _; omega
          have HSC := Lib.hid (fun W => sum_any (rg q) T (q.length % 16) s.size (rg_lt q) htm hql W)
          rw [HSU.out] at HSC
          obtain ⟨z, hz2⟩ : ∃ z, sm l q = z := ⟨_, rfl⟩
          have HZ := Lib.hid hz2
          rw [hz2] at HSC hz
          have HXO := Lib.hid (u8_xor hx hz)
          have hmx := xor_le hx hz
          obtain ⟨m, hm⟩ : ∃ m, x ^^^ z = m := ⟨_, rfl⟩
          have HMM := Lib.hid hm
          rw [hm] at HXO hmx
          have HWB : Hid ((48 + (m : Int)) % 256 = 48 + (m : Int)) := by show _ = _; omega
          obtain ⟨r0, r1, r2, r3⟩ := rgb_all HS.out.ring
          clear hST hIN hy hz2 hm
          go_wp2_with fail
          rw [HY2.out, HCV.out]
          refine (HSC.out _).mono ?_; rintro e w4 ⟨rfl, hb4⟩
          have S4 := Lib.hid (HS.out.keep (by have := HLT.out; omega) hb4)
          have hbs4 : w3.heap.size ≤ w4.heap.size := S4.out.size
          clear hb4 HS r0 r1 r2 r3
          go_wp2_with fail
          rw [HXO.out, HWB.out]
          refine (bld_b _ _ _ (48 + (m : Int)) _ S4.out.bld (by rw [bcs_len, tx_len]; omega) hbs4).mono ?_; rintro e w5 ⟨rfl, hbl5, hbw5, hwr5⟩
          have S5 := Lib.hid (S4.out.write HLT.out m hmx hbl5 hbw5 hwr5)
          clear hbl5 hbw5 hwr5 S4
          go_wp2_with fail
          refine (made_fn _ _ _).mono ?_; rintro e w5 ⟨rfl, rfl⟩
          go_wp2_with fail
          refine (push_any (rg q) T (q.length % 16) m w1.heap.size s.size (rg_lt q) hql hmx _ S5.out.ring).mono ?_; rintro e w6 ⟨rfl, hk6, hg6⟩
          have S6 := Lib.hid (S5.out.push HLT.out m hk6 hg6 (by have := S5.out.size; have := HLT.out; omega))
          clear hk6 hg6 S5
          go_wp2_with fail
          go_roundw
          case rel =>
            refine ⟨k + 1, q ++ [m], M ++ [m], by omega, by go_num, ?_, S6.out⟩
            rw [HT.out]
            unfold scG
            simp only [HZ.out, HMM.out]
            rfl
          case measure => simp [intOf]; omega
        · have HE : Hid (scF false l Q (gb g.data.toList) = (q, M)) := by show _ = _; rw [← HALL.out k hlt]; exact HM.out
          have hL := HL.out
          rw [HE.out] at hL
          have HLL := Lib.hid hL
          clear hL
          go_wp2_with fail
          refine (Go.Proofs.Try.Builder_String_any _ _ _ _ HS.out.bld hbs).mono ?_; rintro e w6 ⟨rfl, hb6⟩
          have B6 := Lib.hid (HB1.out.trans ((HS.out.bel.trans (hb6.mono (by have := HLT.out; omega))).mono HB1.out.size))
          clear hb6
          go_wp2_with fail
          go_ret2
          exact ⟨by rw [HLL.out]; rfl, B6.out⟩

set_option maxRecDepth 100000 in
set_option maxHeartbeats 2000000 in
theorem scrambleBy_given (w : World) (v : Value) (l : List Int) (s g : ByteArray) (hb : ∀ n ∈ l, -9223372036854775808 ≤ n ∧ n ≤ 9223372036854775807) (hs : s.size ≤ maxLen) (hg : g.size ≤ maxLen) (h : Rd w v l) :
    Calls Try.prog 63 #[.agg #[v, .string s], .string g, .func (.func 65) #[] #[]] w fun e w' =>
      e = .returned (.tuple #[.string (scbV true l s.data.toList g.data.toList), .bool (scbOk l s.data.toList g.data.toList)]) ∧ Below w.heap.size w w' := by
  have hB : Below w.heap.size w (w.alloc (.cells #[v, .string s] 28)) := (Below.refl _ _).alloc (Nat.le_refl _) _
  have HBK : Hid (Bk (w.alloc (.cells #[v, .string s] 28)) w.heap.size (scV v s)) := Bk.new w (scV v s) 28 _ rfl
  have HRO := Lib.hid (fun W h => ringOf_any W v l s hb hs h)
  have HIB := Lib.hid (fun W => isBits_any g W hg)
  have HB := Lib.hid hB
  have HRD := Lib.hid (h.keep hB)
  have hE : scbOk l s.data.toList g.data.toList = (scOk l s.data.toList && isB g.data.toList) := rfl
  obtain ⟨A1, c1, rfl⟩ := rd_shp h
  obtain ⟨n1, hn1⟩ : ∃ n1, n1 = l.length := ⟨_, rfl⟩
  rw [← hn1] at HBK HB HRD HRO ⊢
  clear h hb hs hB hn1
  cases hok : scOk l s.data.toList
  · rw [hok, Bool.false_and] at hE
    rw [scbV_no hE, hE]
    rw [hok, if_neg (by decide)] at HRO
    clear hE hok HIB hg
    go_enter Try.func63, Try.ntmps63
    obtain ⟨q0, q1⟩ := sc_all HBK.out
    go_wp2_with fail
    refine (HRO.out _ HRD.out).mono ?_; rintro e w1 ⟨rfl, hb1⟩
    have HB1 := Lib.hid ((HB.out.trans (hb1.mono HB.out.size)).alloc (by have := HB.out.size; have := hb1.size; omega) (.cells #[.int .u16 0, .int .u16 0, .int .i64 0, .int .i64 0] 67))
    clear hb1 q0 q1
    go_wp2_with fail
    go_ret2
    exact ⟨rfl, HB1.out⟩
  · rw [hok, Bool.true_and] at hE
    rw [hok, if_pos rfl] at HRO
    obtain ⟨hp1, hp2, hp3⟩ := scOk_parts hok
    obtain ⟨hp4, hp5⟩ := isB_r hp2
    have hpw := tpOk_wid hp1
    have hsz : (stQ s.data.toList).length = s.size := by rw [stQ_len]; simp
    have hwid : wid l ≤ ((stQ s.data.toList).length : Int) := by rw [stQ_len]; omega
    have hQ := stQ_bits hp5
    have htm : tm l < 65536 := tmF_lt l 0 (by omega) (fun t ht => (of_decide_eq_true (List.all_eq_true.1 (tpOk_parts hp1).2.2 t ht) : 1 ≤ t ∧ t ≤ 16).1)
    cases hok2 : isB g.data.toList
    · rw [hok2] at hE HIB
      rw [scbV_no hE, hE]
      clear hE hok hok2 hp1 hp2 hp3 hp4 hp5 hg
      generalize stQ s.data.toList = Q at *
      go_enter Try.func63, Try.ntmps63
      obtain ⟨q0, q1⟩ := sc_all HBK.out
      go_wp2_with fail
      refine (HRO.out _ HRD.out).mono ?_; rintro e w1 ⟨rfl, hb1⟩
      have HB1 := Lib.hid ((HB.out.trans (hb1.mono HB.out.size)).alloc (by have := HB.out.size; have := hb1.size; omega) (.cells #[.int .u16 (rg Q), .int .u16 (tm l), .int .i64 s.size, .int .i64 (s.size % 16 : Nat)] 67))
      clear hb1 q0 q1
      go_wp2_with fail
      refine (HIB.out _).mono ?_; rintro e w2 ⟨rfl, hb2⟩
      have HB2 := Lib.hid (HB1.out.trans (hb2.mono HB1.out.size))
      clear hb2
      go_wp2_with fail
      go_ret2
      exact ⟨rfl, HB2.out⟩
    · rw [hok2] at hE HIB
      rw [scbV_yes hE, hE]
      obtain ⟨hp6, hp7⟩ := isB_r hok2
      have hgs : g.size ≤ 400 := by simpa using hp6
      have HIN := Lib.hid (fun k hk => inR_at 48 49 g k hk hp7)
      have HOK := Lib.hid (fun k => scF_ok true l (stQ s.data.toList) hQ (gb (g.data.toList.take k)) (gb_bits (inR_take 48 49 g k hp7)))
      have HST := Lib.hid (fun k hk => scF_take true l (stQ s.data.toList) g k hk)
      have HALL := Lib.hid (fun k hk => take_all g k hk)
      have HSM := Lib.hid (fun (q : List Nat) hq hw => ring_sum (l := l) (q := q) hp1 hq hw)
      have HSL := Lib.hid (fun (q : List Nat) (hq : bitsN q) => sm_le hq l)
      have HWI := Lib.hid hwid
      have HL : Hid (scbL true l s.data.toList g.data.toList = tx (scF true l (stQ s.data.toList) (gb g.data.toList)).2) := rfl
      generalize scbL true l s.data.toList g.data.toList = LL at *
      have hs16 : s.size ≤ 16 := by
        have : (s.data.toList.length : Int) = s.size := by simp
        omega
      clear hE hok hok2 hp1 hp2 hp3 hp4 hp5 hp6 hp7 hg hwid hQ hpw
      obtain ⟨X, hX⟩ : ∃ X : Nat, X = rg (stQ s.data.toList) := ⟨_, rfl⟩
      have HX := Lib.hid hX
      rw [← hX] at HRO
      obtain ⟨T, hT⟩ : ∃ T : Nat, T = tm l := ⟨_, rfl⟩
      rw [← hT] at HRO HSM htm
      clear hX hT
      generalize stQ s.data.toList = Q at *
      obtain ⟨Y, hY⟩ : ∃ Y : Nat, Y = s.size % 16 := ⟨_, rfl⟩
      have HY := Lib.hid hY
      rw [← hY] at HRO
      clear hY
      go_enter Try.func63, Try.ntmps63
      obtain ⟨q0, q1⟩ := sc_all HBK.out
      go_wp2_with fail
      refine (HRO.out _ HRD.out).mono ?_; rintro e w1 ⟨rfl, hb1⟩
      have HB1 := Lib.hid (HB.out.trans (hb1.mono HB.out.size))
      clear hb1 q0 q1 HRD HBK HRO
      obtain ⟨W2, hW2⟩ : ∃ W2, W2 = w1.alloc (.cells #[.int .u16 X, .int .u16 T, .int .i64 s.size, .int .i64 Y] 67) := ⟨_, rfl⟩
      have HRB : Hid (Blk W2 w1.heap.size 67 (rgV X T s.size Y)) := by show Blk _ _ _ _; rw [hW2]; exact Blk.new w1 (rgV X T s.size Y) 67 _ rfl
      have HB2 : Hid (Below w1.heap.size w1 W2) := by show Below _ _ _; rw [hW2]; exact (Below.refl _ _).alloc (Nat.le_refl _) _
      have HW2 := Lib.hid hW2
      clear hW2
      go_wp2_with fail
      rw [← HW2.out]
      refine (HIB.out _).mono ?_; rintro e w3 ⟨rfl, hb3⟩
      have HB3 := Lib.hid (HB2.out.trans (hb3.mono HB2.out.size))
      have HR3 := Lib.hid (HRB.out.keep hb3)
      have HLT : Hid (w1.heap.size < w3.heap.size) := HR3.out.lt
      clear hb3 HRB HB2 HW2
      have kb : Below w3.heap.size w3 (w3.alloc (.cells #[.pointer none, .slice none 0 0] 84)) := (Below.refl _ _).alloc (Nat.le_refl _) _
      have hsr : SR w1.heap.size w3.heap.size w1 T s.size Q [] (w3.alloc (.cells #[.pointer none, .slice none 0 0] 84)) :=
        ⟨Lib.fresh_isBuilder _ _ w3, by have := HR3.out.keep kb; rw [HX.out, HY.out, ← hsz] at this; rw [hsz] at *; exact this, HB3.out.trans (kb.mono HB3.out.size), kb.size⟩
      have HSR := Lib.hid hsr
      clear kb hsr HR3
      go_wp2_with fail
      go_loopw [28] (fun i wr => ∃ (k : Nat) (q M : List Nat), k ≤ g.size ∧ i = .int .i64 k ∧ scF true l Q (gb (g.data.toList.take k)) = (q, M) ∧ SR w1.heap.size w3.heap.size w1 T s.size q M wr) (fun i _ => g.size - (intOf i).toNat)
      case atStart => exact ⟨0, Q, [], Nat.zero_le _, rfl, rfl, HSR.out⟩
      case round =>
        obtain ⟨k, q, M, hk, rfl, hst, hsr⟩ := hrel
        have hok := HOK.out k
        rw [hst] at hok
        obtain ⟨o1, o2, o3, o4⟩ := hok
        simp only at o1 o2 o3 o4
        rw [gb_len] at o3 o4
        have HM := Lib.hid hst
        have HS := Lib.hid hsr
        have hlen : M.length ≤ 400 := by rw [o4, List.length_take]; omega
        have HO1 := Lib.hid o1
        have hql : q.length % 16 < 16 := Nat.mod_lt _ (by omega)
        have HSU := Lib.hid (HSM.out q o1 (by have := HWI.out; omega))
        have hz := HSL.out q o1
        have hbs : w3.heap.size ≤ wr.heap.size := hsr.size
        clear hst hsr o1 o2 o3 o4
        by_cases hlt : k < g.size
        · have hST := HST.out k hlt
          rw [HM.out] at hST
          have hIN := HIN.out k hlt
          have hk0 : (0 : Int) ≤ (k : Int) := by omega
          have hk1 : (k : Int) < (g.size : Int) := by omega
          obtain ⟨y, hy⟩ : ∃ y, g[k].toNat = y := ⟨_, rfl⟩
          rw [hy] at hST hIN
          have HY2 := Lib.hid hy
          obtain ⟨x, rfl⟩ : ∃ x, y = x + 48 := ⟨y - 48, by omega⟩
          have hx : x ≤ 1 := by omega
          rw [show x + 48 - 48 = x from by omega] at hST
          have HT := Lib.hid hST
          have HCV : Hid ((((x + 48 : Nat) : Int) - 48) % 256 = (x : Int)) := by show _ = _; omega
          have HSC := Lib.hid (fun W => sum_any (rg q) T (q.length % 16) s.size (rg_lt q) htm hql W)
          rw [HSU.out] at HSC
          obtain ⟨z, hz2⟩ : ∃ z, sm l q = z := ⟨_, rfl⟩
          have HZ := Lib.hid hz2
          rw [hz2] at HSC hz
          have HXO := Lib.hid (u8_xor hx hz)
          have hmx := xor_le hx hz
          obtain ⟨m, hm⟩ : ∃ m, x ^^^ z = m := ⟨_, rfl⟩
          have HMM := Lib.hid hm
          rw [hm] at HXO hmx
          have HWB : Hid ((48 + (m : Int)) % 256 = 48 + (m : Int)) := by show _ = _; omega
          obtain ⟨r0, r1, r2, r3⟩ := rgb_all HS.out.ring
          clear hST hIN hy hz2 hm
          go_wp2_with fail
          rw [HY2.out, HCV.out]
          refine (HSC.out _).mono ?_; rintro e w4 ⟨rfl, hb4⟩
          have S4 := Lib.hid (HS.out.keep (by have := HLT.out; omega) hb4)
          have hbs4 : w3.heap.size ≤ w4.heap.size := S4.out.size
          clear hb4 HS r0 r1 r2 r3
          go_wp2_with fail
          rw [HXO.out, HWB.out]
          refine (bld_b _ _ _ (48 + (m : Int)) _ S4.out.bld (by rw [bcs_len, tx_len]; omega) hbs4).mono ?_; rintro e w5 ⟨rfl, hbl5, hbw5, hwr5⟩
          have S5 := Lib.hid (S4.out.write HLT.out m hmx hbl5 hbw5 hwr5)
          clear hbl5 hbw5 hwr5 S4
          go_wp2_with fail
          refine (given_fn _ _ _).mono ?_; rintro e w5 ⟨rfl, rfl⟩
          go_wp2_with fail
          refine (push_any (rg q) T (q.length % 16) x w1.heap.size s.size (rg_lt q) hql hx _ S5.out.ring).mono ?_; rintro e w6 ⟨rfl, hk6, hg6⟩
          have S6 := Lib.hid (S5.out.push HLT.out x hk6 hg6 (by have := S5.out.size; have := HLT.out; omega))
          clear hk6 hg6 S5
          go_wp2_with fail
          go_roundw
          case rel =>
            refine ⟨k + 1, q ++ [x], M ++ [m], by omega, by go_num, ?_, S6.out⟩
            rw [HT.out]
            unfold scG
            simp only [HZ.out, HMM.out]
            rfl
          case measure => simp [intOf]; omega
        · have HE : Hid (scF true l Q (gb g.data.toList) = (q, M)) := by show _ = _; rw [← HALL.out k hlt]; exact HM.out
          have hL := HL.out
          rw [HE.out] at hL
          have HLL := Lib.hid hL
          clear hL
          go_wp2_with fail
          refine (Go.Proofs.Try.Builder_String_any _ _ _ _ HS.out.bld hbs).mono ?_; rintro e w6 ⟨rfl, hb6⟩
          have B6 := Lib.hid (HB1.out.trans ((HS.out.bel.trans (hb6.mono (by have := HLT.out; omega))).mono HB1.out.size))
          clear hb6
          go_wp2_with fail
          go_ret2
          exact ⟨by rw [HLL.out]; rfl, B6.out⟩

set_option maxRecDepth 100000 in
theorem selfScramble_impl (w : World) (v : Value) (l : List Int) (s g : ByteArray) (hb : ∀ n ∈ l, -9223372036854775808 ≤ n ∧ n ≤ 9223372036854775807) (hs : s.size ≤ maxLen) (hg : g.size ≤ maxLen) (h : Rd w v l) :
    Calls Try.prog 29 #[.agg #[v, .string s], .string g] w fun e w' =>
      e = .returned (.tuple #[.string (scbV false l s.data.toList g.data.toList), .bool (scbOk l s.data.toList g.data.toList)]) ∧ Below w.heap.size w w' := by
  have hB : Below w.heap.size w (w.alloc (.cells #[v, .string s] 28)) := (Below.refl _ _).alloc (Nat.le_refl _) _
  have HBK : Hid (Bk (w.alloc (.cells #[v, .string s] 28)) w.heap.size (scV v s)) := Bk.new w (scV v s) 28 _ rfl
  have HC := Lib.hid (fun W h => scrambleBy_made W v l s g hb hs hg h)
  have HB := Lib.hid hB
  have HRD := Lib.hid (h.keep hB)
  obtain ⟨A1, c1, rfl⟩ := rd_shp h
  obtain ⟨n1, hn1⟩ : ∃ n1, n1 = l.length := ⟨_, rfl⟩
  rw [← hn1] at HBK HB HRD HC ⊢
  generalize scbV false l s.data.toList g.data.toList = V at *
  generalize scbOk l s.data.toList g.data.toList = O at *
  clear h hb hs hB hg hn1
  go_enter Try.func29, Try.ntmps29
  obtain ⟨q0, q1⟩ := sc_all HBK.out
  go_wp2_with fail
  refine (HC.out _ HRD.out).mono ?_; rintro e w1 ⟨rfl, hb1⟩
  have HB1 := Lib.hid (HB.out.trans (hb1.mono HB.out.size))
  clear hb1 q0 q1
  go_wp2_with fail
  go_ret2
  exact ⟨rfl, HB1.out⟩

set_option maxRecDepth 100000 in
theorem selfDescramble_impl (w : World) (v : Value) (l : List Int) (s g : ByteArray) (hb : ∀ n ∈ l, -9223372036854775808 ≤ n ∧ n ≤ 9223372036854775807) (hs : s.size ≤ maxLen) (hg : g.size ≤ maxLen) (h : Rd w v l) :
    Calls Try.prog 31 #[.agg #[v, .string s], .string g] w fun e w' =>
      e = .returned (.tuple #[.string (scbV true l s.data.toList g.data.toList), .bool (scbOk l s.data.toList g.data.toList)]) ∧ Below w.heap.size w w' := by
  have hB : Below w.heap.size w (w.alloc (.cells #[v, .string s] 28)) := (Below.refl _ _).alloc (Nat.le_refl _) _
  have HBK : Hid (Bk (w.alloc (.cells #[v, .string s] 28)) w.heap.size (scV v s)) := Bk.new w (scV v s) 28 _ rfl
  have HC := Lib.hid (fun W h => scrambleBy_given W v l s g hb hs hg h)
  have HB := Lib.hid hB
  have HRD := Lib.hid (h.keep hB)
  obtain ⟨A1, c1, rfl⟩ := rd_shp h
  obtain ⟨n1, hn1⟩ : ∃ n1, n1 = l.length := ⟨_, rfl⟩
  rw [← hn1] at HBK HB HRD HC ⊢
  generalize scbV true l s.data.toList g.data.toList = V at *
  generalize scbOk l s.data.toList g.data.toList = O at *
  clear h hb hs hB hg hn1
  go_enter Try.func31, Try.ntmps31
  obtain ⟨q0, q1⟩ := sc_all HBK.out
  go_wp2_with fail
  refine (HC.out _ HRD.out).mono ?_; rintro e w1 ⟨rfl, hb1⟩
  have HB1 := Lib.hid (HB.out.trans (hb1.mono HB.out.size))
  clear hb1 q0 q1
  go_wp2_with fail
  go_ret2
  exact ⟨rfl, HB1.out⟩
end Go.Proofs.Ytddlpbpcdjddpaa
