/- The program's KeyPeriod. -/
import Derived.Test.YtddlpbpcdjddpaaKyi
import Derived.Test.YtddlpbpcdjddpaaStt
namespace Go.Proofs.Ytddlpbpcdjddpaa
open Go Go.RowKit Go.Shelf
set_option linter.unusedVariables false
attribute [local go_sem] Oper.semAt_some
theorem bk_drop {q : List Nat} {k : Nat} {t : Int} (h : t ≤ ((q.length - k : Nat) : Int)) (h1 : 1 ≤ t) : bk (q.drop k) t = bk q t := by
  unfold bk
  rw [List.length_drop, List.getD, List.getD, List.getElem?_drop]
  congr 2
  omega
theorem smF_drop {q : List Nat} {k : Nat} : ∀ (m : List Int) (a : Nat), (∀ t ∈ m, 1 ≤ t ∧ t ≤ ((q.length - k : Nat) : Int)) → smF m (q.drop k) a = smF m q a
  | [], a, _ => rfl
  | t :: m, a, h => by
    have ht := h t (List.mem_cons_self ..)
    show smF m (q.drop k) (a ^^^ bk (q.drop k) t) = smF m q (a ^^^ bk q t)
    rw [bk_drop ht.2 ht.1]
    exact smF_drop m _ (fun x hx => h x (List.mem_cons_of_mem _ hx))
theorem kq_wn {l : List Int} {q : List Nat} (ht : tpOk l = true) (hq : bitsN q) (hw : (q.length : Int) = wid l) : ∀ k, (kq l q k).drop k = wn l q k
  | 0 => by simp [kq, wn]
  | k + 1 => by
    have h1 := kq_wn ht hq hw k
    have h2 := (kq_ok (l := l) hq k).2
    have h3 : sm l (kq l q k) = sm l (wn l q k) := by
      rw [← h1]
      refine (smF_drop l 0 fun t hm => ?_).symm
      obtain ⟨i, hi, rfl⟩ := List.getElem_of_mem hm
      have := tpOk_le ht i hi
      rw [h2]
      exact ⟨this.1, by omega⟩
    show (kq l q k ++ [sm l (kq l q k)]).drop (k + 1) = (wn l q k).drop 1 ++ [sm l (wn l q k)]
    have := (tpOk_wid ht).1
    rw [List.drop_append_of_le_length (by omega), h3, ← h1, List.drop_drop]
def kpV (l : List Int) (s : List UInt8) : Int := if scOk l s then (kpN l (stQ s) : Int) else 0

set_option maxRecDepth 100000 in
set_option maxHeartbeats 2000000 in
theorem keyPeriod_impl (w : World) (v : Value) (l : List Int) (s : ByteArray) (hb : ∀ n ∈ l, -9223372036854775808 ≤ n ∧ n ≤ 9223372036854775807) (hs : s.size ≤ maxLen) (h : Rd w v l) :
    Calls Try.prog 20 #[.agg #[v, .string s]] w fun e w' =>
      e = .returned (.tuple #[.int .i64 (kpV l s.data.toList), .bool (scOk l s.data.toList)]) ∧ Below w.heap.size w w' := by
  have h1 : 1 ≤ 9 := by omega
  obtain ⟨W0, hW0⟩ : ∃ W0, W0 = w.alloc (.cells #[v, .string s] 28) := ⟨_, rfl⟩
  have hB : Below w.heap.size w W0 := by rw [hW0]; exact (Below.refl _ _).alloc (Nat.le_refl _) _
  have HBK : Hid (Bk W0 w.heap.size (scV v s)) := by show Bk _ _ _; rw [hW0]; exact Bk.new w (scV v s) 28 _ rfl
  have HRO := Lib.hid (fun W h => ringOf_any W v l s hb hs h)
  have HB := Lib.hid hB
  have HRD := Lib.hid (h.keep hB)
  have HW := Lib.hid hW0
  have hE : kpV l s.data.toList = if scOk l s.data.toList then (kpN l (stQ s.data.toList) : Int) else 0 := rfl
  obtain ⟨A1, c1, rfl⟩ := rd_shp h
  obtain ⟨n1, hn1⟩ : ∃ n1, n1 = l.length := ⟨_, rfl⟩
  rw [← hn1] at HBK HRD HRO HW ⊢
  clear h hb hs hB hn1 hW0
  cases hok : scOk l s.data.toList
  · rw [hok, if_neg (by decide)] at hE
    rw [hE]
    rw [hok, if_neg (by decide)] at HRO
    clear hE hok
    refine (callsIn_wide (n := 9)).1 ?_
    refine callsIn_of_wp_marks Try.func20 rfl trivial ?_ rfl
    simp only [Try.ntmps20, List.size_toArray, List.length_cons, List.length_nil, Nat.reduceAdd, Nat.reduceSub, Array.replicate_succ, Array.replicate_zero, List.push_toArray, List.append_toArray, List.nil_append, List.cons_append]
    obtain ⟨q0, q1⟩ := sc_all HBK.out
    gi_wp2_with fail
    rw [← HW.out]
    refine ⟨trivial, (callsIn_wide.2 (HRO.out _ HRD.out)).mono ?_⟩; rintro e w1 ⟨rfl, hb1⟩
    have HB1 := Lib.hid ((HB.out.trans (hb1.mono HB.out.size)).alloc (by have := HB.out.size; have := hb1.size; omega) (.cells #[.int .u16 0, .int .u16 0, .int .i64 0, .int .i64 0] 67))
    clear hb1 q0 q1
    gi_wp2_with fail
    refine ⟨_, results_tmp2 rfl _ _ _, rfl, HB1.out⟩
  · rw [hok, if_pos rfl] at hE
    rw [hok, if_pos rfl] at HRO
    rw [hE]
    obtain ⟨hp1, hp2, hp3⟩ := scOk_parts hok
    obtain ⟨hp4, hp5⟩ := isB_r hp2
    have hpw := tpOk_wid hp1
    have hsz : (stQ s.data.toList).length = s.size := by rw [stQ_len]; simp
    have hwe : ((stQ s.data.toList).length : Int) = wid l := by rw [stQ_len]; exact hp3
    have hwid : wid l ≤ ((stQ s.data.toList).length : Int) := by omega
    have hs16 : s.size ≤ 16 := by omega
    have hQ := stQ_bits hp5
    rw [show ((s.size % 16 : Nat) : Int) = ((km l (stQ s.data.toList) 0 : Nat) : Int) from by unfold km kq; rw [hsz], show rg (stQ s.data.toList) = rg (kq l (stQ s.data.toList) 0) from rfl] at HRO
    clear hE hok hp2 hp3 hp4 hp5 hpw
    generalize stQ s.data.toList = Q at *
    obtain ⟨p1, p2, p3, p4⟩ := kpN_ok hp1 hQ hwe
    have HKE := Lib.hid (fun W B b hB hb => alongKey_endless 8 (by omega) (kpN l Q) B b W l Q s.size hp1 hQ hwid hB (by omega) hb)
    have HSS := Lib.hid (fun (x n : Nat) W hx hn => state_any x (tm l) n s.size hx hn hs16 W)
    have HEQ : Hid (∀ k, stv (rg (kq l Q k)) (km l Q k) s.size = stv (rg (kq l Q 0)) (km l Q 0) s.size ↔ wn l Q k = Q) := by
      show ∀ _, _
      intro k
      have a := kq_ok (l := l) hQ k
      have b := kq_ok (l := l) hQ 0
      have := stv_eq a.1 b.1 hs16 (by omega) (by omega)
      rw [show (kq l Q k).length - s.size = k from by omega, show (kq l Q 0).length - s.size = 0 from by omega, kq_wn hp1 hQ hwe k] at this
      exact this
    obtain ⟨P, hP⟩ : ∃ P, P = kpN l Q := ⟨_, rfl⟩
    rw [← hP] at p1 p2 p3 p4 HKE ⊢
    have HP4 := Lib.hid p4
    have HP3 := Lib.hid p3
    clear hP p4 p3 hp1 hQ hwid hwe hsz
    obtain ⟨T, hT⟩ : ∃ T, T = tm l := ⟨_, rfl⟩
    rw [← hT] at HRO HKE HSS
    clear hT
    refine (callsIn_wide (n := 9)).1 ?_
    refine callsIn_of_wp_marks Try.func20 rfl trivial ?_ rfl
    simp only [Try.ntmps20, List.size_toArray, List.length_cons, List.length_nil, Nat.reduceAdd, Nat.reduceSub, Array.replicate_succ, Array.replicate_zero, List.push_toArray, List.append_toArray, List.nil_append, List.cons_append]
    obtain ⟨q0, q1⟩ := sc_all HBK.out
    gi_wp2_with fail
    rw [← HW.out]
    refine ⟨trivial, (callsIn_wide.2 (HRO.out _ HRD.out)).mono ?_⟩; rintro e w1 ⟨rfl, hb1⟩
    have HB1 := Lib.hid (HB.out.trans (hb1.mono HB.out.size))
    clear hb1 q0 q1 HRO HRD HBK HB HW
    obtain ⟨W3, hW3⟩ : ∃ W3, W3 = (w1.alloc (.cells #[.int .u16 (rg (kq l Q 0)), .int .u16 T, .int .i64 s.size, .int .i64 (km l Q 0 : Nat)] 67)).alloc (.cells #[.int .i64 0] 2) := ⟨_, rfl⟩
    have k3 : Below w1.heap.size w1 W3 := by rw [hW3]; exact ((Below.refl _ _).alloc (Nat.le_refl _) _).alloc (by simp) _
    have r3 : Blk W3 w1.heap.size 67 (rgV (rg (kq l Q 0)) T s.size (km l Q 0 : Nat)) := by
      rw [hW3]; exact (Blk.new w1 (rgV (rg (kq l Q 0)) T s.size (km l Q 0 : Nat)) _ _ rfl).keep ((Below.refl _ _).alloc (Nat.le_refl _) _)
    have b3 : Bk W3 (w1.heap.size + 1) [.int .i64 0] := by rw [hW3]; exact Bk.new _ [.int .i64 0] 2 _ (by simp)
    have z3 : W3.heap.size = w1.heap.size + 2 := by rw [hW3]; simp
    obtain ⟨q0, q1, q2, q3⟩ := rgb_all r3
    rw [hW3] at q0 q1 q2 q3
    have HW3 := Lib.hid hW3
    have HB3 := Lib.hid (HB1.out.trans (k3.mono HB1.out.size))
    clear hW3 k3
    gi_wp2_with fail
    rw [← HW3.out]
    refine ⟨trivial, (callsIn_wide.2 (alongKey_any _ _ _ _ _)).mono ?_⟩; rintro e w4 ⟨rfl, rfl⟩
    clear q0 q1 q2 q3
    obtain ⟨W4, hW4⟩ : ∃ W4, W4 = W3.alloc (.cells #[.int .u16 (rg (kq l Q 0)), .int .u16 T, .int .i64 s.size, .int .i64 (km l Q 0 : Nat)] 67) := ⟨_, rfl⟩
    have k4 : Below W3.heap.size W3 W4 := by rw [hW4]; exact (Below.refl _ _).alloc (Nat.le_refl _) _
    have r4 : Blk W4 W3.heap.size 67 (rgV (rg (kq l Q 0)) T s.size (km l Q 0 : Nat)) := by rw [hW4]; exact Blk.new W3 (rgV (rg (kq l Q 0)) T s.size (km l Q 0 : Nat)) _ _ rfl
    have z4 : W4.heap.size = w1.heap.size + 3 := by rw [hW4]; simp [z3]
    have b4 := b3.keep k4
    have s4 := r3.keep k4
    have HB4 := Lib.hid (HB3.out.trans (k4.mono HB3.out.size))
    rw [← hW4]
    clear hW4 k4 b3 r3 HB3 HW3
    gi_wp2_with fail
    have HLO : Hid (w1.heap.size + 1 < W4.heap.size ∧ w.heap.size ≤ w1.heap.size) := by show _ ∧ _; have := HB1.out.size; exact ⟨by omega, by omega⟩
    have HR4 : Hid (Blk W4 (w1.heap.size + 2) 67 (rgV (rg (kq l Q 0)) T s.size (km l Q 0 : Nat))) := by show Blk _ _ _ _; rw [← z3]; exact r4
    clear r4 z4 z3
    refine rf_endless (F := Fence.wide) (n := 9) rfl h1 (gf := 78) (lb := #[.pointer (some ⟨w1.heap.size + 2, 0, none⟩)]) rfl trivial (enters_of Try.func78 (by kernel_rfl) rfl)
      (HKE.out W4 (w1.heap.size + 2) (w1.heap.size + 1) HR4.out HLO.out.1) (fun _ => rfl) HLO.out.1 (.exit 0)
      (fun k W => k ≤ P ∧ Blk W w1.heap.size 67 (rgV (rg (kq l Q 0)) T s.size (km l Q 0 : Nat)) ∧ Bk W (w1.heap.size + 1) [.int .i64 0] ∧ Below w.heap.size w W)
      (fun k W => k = P ∧ Bk W (w1.heap.size + 1) [.int .i64 P] ∧ Below w.heap.size w W)
      (fun k W h => h.1) ?hI ?hX ⟨Nat.zero_le _, s4, b4, HB4.out⟩
      (fun k a' W => ∃ p, W4.heap.size + 3 ≤ p ∧ a' = { tmps := #[.agg #[.slice A1 n1 c1, .string s], .pointer (some ⟨w.heap.size, 0, none⟩), .int .i64 0, .bool false, .pointer (some ⟨w1.heap.size, 0, none⟩), .bool true, .pointer (some ⟨w1.heap.size + 1, 0, none⟩), .int .i64 k, .pointer (some ⟨p, 0, none⟩), .tuple #[.agg #[.int .u16 (rg (kq l Q 0)), .int .u16 T, .int .i64 s.size, .int .i64 (km l Q 0 : Nat)], .bool true], .agg #[.slice A1 n1 c1, .string s], .tuple #[.agg #[.int .u16 (rg (kq l Q 0)), .int .u16 T, .int .i64 s.size, .int .i64 (km l Q 0 : Nat)], .bool true], .agg #[.int .u16 (rg (kq l Q 0)), .int .u16 T, .int .i64 s.size, .int .i64 (km l Q 0 : Nat)], .bool true, .bool true, .bool false, .agg #[.int .u16 (rg (kq l Q 0)), .int .u16 T, .int .i64 s.size, .int .i64 (km l Q 0 : Nat)], .func (.func 78) #[] #[.pointer (some ⟨w1.heap.size + 2, 0, none⟩)], .int .i64 k, .agg #[.int .u16 (rg (kq l Q k)), .int .u16 T, .int .i64 s.size, .int .i64 (km l Q k : Nat)], undef, undef, undef, undef, undef, undef, undef, undef, undef, undef, undef], defers := [] } ∧ Blk W p 67 (rgV (rg (kq l Q k)) T s.size (km l Q k : Nat))) ?hAx ?assign ?body ?stop
    case hI =>
      rintro k A B r ⟨a1, a2, a3, a5⟩ r1 r2 hg
      have hlo := HLO.out
      exact ⟨a1, a2.grown hg (by intro h; injection h; omega), bk_gr a3 hg (by omega), a5.grown hg (by have := HB4.out.size; have := a5.size; omega) (fun k hk => by injection hk with hk; have := HB4.out.size; omega)⟩
    case hX =>
      rintro k A B r ⟨a1, a3, a5⟩ r1 r2 hg
      have hlo := HLO.out
      exact ⟨a1, bk_gr a3 hg (by omega), a5.grown hg (by have := HB4.out.size; have := a5.size; omega) (fun k hk => by injection hk with hk; have := HB4.out.size; omega)⟩
    case hAx =>
      rintro k a' A B r ⟨p, p1, p2, p3⟩ r1 r2 hg
      exact ⟨p, p1, p2, p3.grown hg (by intro h; injection h; omega)⟩
    case assign =>
      intro ll k W K hsz hi hK
      dsimp only [kEnc]
      gi_wp2_with fail
      refine hK _ _ ((Below.refl _ _).alloc (Nat.le_refl _) _) ⟨W.heap.size, hsz, rfl, Blk.new W (rgV (rg (kq l Q k)) T s.size (km l Q k : Nat)) _ _ rfl⟩
    case body =>
      rintro ll k a' W hsz ⟨a1, a2, a3, a5⟩ ⟨p, pp, rfl, p3⟩
      by_cases hk0 : k = 0
      · subst hk0
        have hmx : Try.prog.follows .mixedOrders = true := by kernel_rfl
        have A2 := Lib.hid a2
        have A3 := Lib.hid a3
        have A5 := Lib.hid a5
        clear a2 a3 a5 p3
        gi_wp2_with fail
        gi_region_with_o (first | (refine ⟨trivial, ?_⟩) | fail)
        all_goals gi_wp2_with fail
        all_goals exact ⟨Chg.of_below (Below.refl _ _).drew (Nat.le_refl _), by omega, A2.out, A3.out, A5.out.drew⟩
      · have hmx : Try.prog.follows .mixedOrders = true := by kernel_rfl
        have hk1 : (0 : Int) < (k : Int) := by omega
        have hk2 : 0 < k := by omega
        have HS1 := Lib.hid (fun W => HSS.out (rg (kq l Q k)) (km l Q k) W (rg_lt _) (Nat.mod_lt _ (by omega)))
        have HS0 := Lib.hid (fun W => HSS.out (rg (kq l Q 0)) (km l Q 0) W (rg_lt _) (Nat.mod_lt _ (by omega)))
        have hEQ := HEQ.out k
        have A2 := Lib.hid a2
        have A3 := Lib.hid a3
        have A5 := Lib.hid a5
        have P3 := Lib.hid p3
        have HSZ := Lib.hid hsz
        have HLO := Lib.hid (And.intro hk2 HLO.out)
        have HNE : Hid (k ≠ P → stv (rg (kq l Q k)) (km l Q k) s.size ≠ stv (rg (kq l Q 0)) (km l Q 0) s.size) := by
          show _ → _
          intro hkP h
          exact HP4.out k (by omega) (by omega) (hEQ.1 h)
        have HYE : Hid (k = P → stv (rg (kq l Q k)) (km l Q k) s.size = stv (rg (kq l Q 0)) (km l Q 0) s.size) := by
          show _ → _
          intro hkP
          exact hEQ.2 (by rw [hkP]; exact HP3.out)
        obtain ⟨q0, q1, q2, q3⟩ := rgb_all (Blk.dr p3)
        obtain ⟨r0, r1, r2, r3⟩ := rgb_all (Blk.dr a2)
        clear hEQ a2 a3 a5 p3 hsz HSS HEQ HP4 HP3
        generalize stv (rg (kq l Q k)) (km l Q k) s.size = S1 at *
        generalize stv (rg (kq l Q 0)) (km l Q 0) s.size = S0 at *
        generalize rg (kq l Q k) = X1 at *
        generalize km l Q k = N1 at *
        generalize rg (kq l Q 0) = X0 at *
        generalize km l Q 0 = N0 at *
        have HSB : Hid (∀ (W : World) (x n S : Nat), (x = X1 ∧ n = N1 ∧ S = S1) ∨ (x = X0 ∧ n = N0 ∧ S = S0) → Calls Try.prog 54 #[.agg #[.int .u16 x, .int .u16 T, .int .i64 s.size, .int .i64 n]] W fun e w' => e = .returned (.int .u16 (S : Nat)) ∧ Below W.heap.size W w') := by
          show ∀ _ _ _ _, _
          intro W x n S h
          rcases h with ⟨rfl, rfl, rfl⟩ | ⟨rfl, rfl, rfl⟩
          · exact HS1.out W
          · exact HS0.out W
        clear HS1 HS0
        have kA : Blk W.drew p 67 (rgV X1 T s.size (N1 : Nat)) := P3.out
        have kB : Blk W.drew w1.heap.size 67 (rgV X0 T s.size (N0 : Nat)) := A2.out
        have BB : Hid (Below W.heap.size W W.drew) := (Below.refl _ _).drew
        by_cases hkP : k = P
        · have he := HYE.out hkP
          subst he
          have hS : ((S1 : Int) == (S1 : Int)) = true := by simp
          gi_wp2_with fail
          gi_region_with_o (first
            | (refine ⟨trivial, ?_⟩; gi_at_call 54; refine (CallsIn.inRound ll (callsIn_wide.2 (HSB.out _ _ _ S1 (by first | exact Or.inl ⟨rfl, rfl, rfl⟩ | exact Or.inr ⟨rfl, rfl, rfl⟩)))).mono ?_; rintro e w7 ⟨rfl, hb7⟩; have kA := kA.keep hb7; have kB := kB.keep hb7; have BB := Lib.hid (BB.out.trans (hb7.mono BB.out.size)); clear hb7; obtain ⟨q0, q1, q2, q3⟩ := rgb_all kA; obtain ⟨r0, r1, r2, r3⟩ := rgb_all kB)
            | fail)
          all_goals (have cc := (A3.out.keep BB.out).c 0 _ rfl)
          all_goals (have cf := (A3.out.keep BB.out).f 0 (by simp))
          all_goals gi_wp2_with fail
          all_goals exact ⟨rfl, (Chg.of_below BB.out HSZ.out).trans (Chg.of_set _ _ _), hkP, by rw [← hkP]; exact (A3.out.keep BB.out).set 0 (by simp) _, (A5.out.trans (BB.out.mono A5.out.size)).setCell (p := ⟨w1.heap.size + 1, 0, none⟩) (by have := HLO.out; simp; omega) _⟩
        · have he := HNE.out hkP
          have hS : ((S1 : Int) == (S0 : Int)) = false := beq_f (by omega)
          gi_wp2_with fail
          gi_region_with_o (first
            | (refine ⟨trivial, ?_⟩; gi_at_call 54; refine (CallsIn.inRound ll (callsIn_wide.2 (HSB.out _ _ _ S1 (by first | exact Or.inl ⟨rfl, rfl, rfl⟩)))).mono ?_; rintro e w7 ⟨rfl, hb7⟩; have kA := kA.keep hb7; have kB := kB.keep hb7; have BB := Lib.hid (BB.out.trans (hb7.mono BB.out.size)); clear hb7; obtain ⟨q0, q1, q2, q3⟩ := rgb_all kA; obtain ⟨r0, r1, r2, r3⟩ := rgb_all kB)
            | (refine ⟨trivial, ?_⟩; gi_at_call 54; refine (CallsIn.inRound ll (callsIn_wide.2 (HSB.out _ _ _ S0 (by first | exact Or.inr ⟨rfl, rfl, rfl⟩)))).mono ?_; rintro e w7 ⟨rfl, hb7⟩; have kA := kA.keep hb7; have kB := kB.keep hb7; have BB := Lib.hid (BB.out.trans (hb7.mono BB.out.size)); clear hb7; obtain ⟨q0, q1, q2, q3⟩ := rgb_all kA; obtain ⟨r0, r1, r2, r3⟩ := rgb_all kB)
            | fail)
          all_goals gi_wp2_with fail
          all_goals exact ⟨Chg.of_below BB.out HSZ.out, by omega, A2.out.keep BB.out, A3.out.keep BB.out, A5.out.trans (BB.out.mono A5.out.size)⟩
    case stop =>
      rintro k W ⟨rfl, a3, a5⟩ hD
      have cc := a3.c 0 _ rfl
      have HD := Lib.hid hD
      have A5 := Lib.hid a5
      clear a3 hD a5
      gi_wp2_with fail
      refine ⟨by simp, .inl ⟨_, _, rfl, run_takeDeferred HD.out, ?_⟩⟩
      refine ⟨_, results_tmp2 rfl _ _ _, rfl, A5.out.grown (gb_put _ _ _) (by have := A5.out.size; have := HB4.out.size; omega) (fun k hk => by injection hk with hk; have := HB4.out.size; omega)⟩
end Go.Proofs.Ytddlpbpcdjddpaa
