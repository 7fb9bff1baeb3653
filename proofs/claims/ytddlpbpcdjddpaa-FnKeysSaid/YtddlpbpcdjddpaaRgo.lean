/- The program's ringOf. -/
import Derived.Test.YtddlpbpcdjddpaaRgi
import Derived.Test.YtddlpbpcdjddpaaScd
import Derived.Test.YtddlpbpcdjddpaaScS
namespace Go.Proofs.Ytddlpbpcdjddpaa
open Go Go.RowKit
set_option linter.unusedVariables false
theorem rg_take (q : List Nat) (k : Nat) (h : k < q.length) : rg (q.take (k + 1)) = rgS (rg (q.take k)) k (q.getD k 0) := by
  rw [List.take_succ_eq_append_getElem h, rg_snoc, List.length_take, Nat.min_eq_left (by omega), List.getD, List.getElem?_eq_getElem h]
  rfl
theorem rgS_mod (w n b : Nat) : rgS w (n % 16) b = rgS w n b := by unfold rgS; rw [Nat.mod_mod]
theorem isB_r {l : List UInt8} (h : isB l = true) : l.length ≤ 400 ∧ inR 48 49 l = true := by
  unfold isB at h
  have h' := Bool.and_eq_true_iff.1 h
  exact ⟨of_decide_eq_true h'.1, h'.2⟩
theorem tap_key (a : Nat) (t : Int) (ha : a < 65536) (h1 : 1 ≤ t) (h2 : t ≤ 16) : bits .or .u16 (a : Int) (IntKind.u16.wrap (2 ^ ((16 : Int) - t).toNat)) = ((a ||| 2 ^ (16 - t.toNat) : Nat) : Int) := by
  rw [show ((16 : Int) - t).toNat = 16 - t.toNat from by omega]
  have hp : 2 ^ (16 - t.toNat) ≤ 32768 := Nat.pow_le_pow_right (by omega) (by omega : 16 - t.toNat ≤ 15)
  have e1 : IntKind.u16.wrap (2 ^ (16 - t.toNat)) = ((2 ^ (16 - t.toNat) : Nat) : Int) := by
    have : (2 : Int) ^ (16 - t.toNat) = ((2 ^ (16 - t.toNat) : Nat) : Int) := by push_cast; rfl
    rw [this]
    generalize 2 ^ (16 - t.toNat) = m at *
    simp [IntKind.wrap, IntKind.signed, IntKind.bits]
    omega
  rw [e1, u16_or _ _ ha (by omega)]

/-- What ringOf's loops hold. -/
structure RI (w w1 : World) (v : Value) (s : ByteArray) (x t : Nat) (wd n : Int) (wr : World) : Prop where
  ring : Blk wr w1.heap.size 67 (rgV x t wd n)
  bel : Below w1.heap.size w1 wr
theorem RI.set {w w1 : World} {v : Value} {s : ByteArray} {x t x' t' : Nat} {wd n n' : Int} {wr w2 : World} (h : RI w w1 v s x t wd n wr) (hb : Blk w2 w1.heap.size 67 (rgV x' t' wd n')) (hg : wr.grownBy w2 (some w1.heap.size)) : RI w w1 v s x' t' wd n' w2 :=
  ⟨hb, h.bel.grown hg h.bel.size (fun k hk => by injection hk with hk; omega)⟩

set_option maxRecDepth 100000 in
set_option maxHeartbeats 2000000 in
theorem ringOf_any (w : World) (v : Value) (l : List Int) (s : ByteArray) (hb : ∀ n ∈ l, -9223372036854775808 ≤ n ∧ n ≤ 9223372036854775807) (hs : s.size ≤ maxLen) (h : Rd w v l) :
    Calls Try.prog 52 #[.agg #[v, .string s]] w fun e w' =>
      e = .returned (.tuple #[.agg (if scOk l s.data.toList then #[.int .u16 (rg (stQ s.data.toList)), .int .u16 (tm l), .int .i64 s.size, .int .i64 (s.size % 16 : Nat)] else #[.int .u16 0, .int .u16 0, .int .i64 0, .int .i64 0]), .bool (scOk l s.data.toList)]) ∧ Below w.heap.size w w' := by
  obtain ⟨W0, hW0⟩ : ∃ W0, W0 = (w.alloc (.cells #[v, .string s] 28)).alloc (.cells #[.int .u16 0, .int .u16 0, .int .i64 0, .int .i64 0] 67) := ⟨_, rfl⟩
  have hB : Below w.heap.size w W0 := by rw [hW0]; exact ((Below.refl _ _).alloc (Nat.le_refl _) _).alloc (by simp) _
  have hbk : Bk W0 w.heap.size (scV v s) := by rw [hW0]; exact (Bk.new w (scV v s) 28 _ rfl).alloc _
  have hrs : Bk W0 (w.heap.size + 1) (rgV 0 0 0 0) := by rw [hW0]; exact Bk.new _ (rgV 0 0 0 0) 67 _ (by simp)
  have HI := Lib.hid (fun W h => validSc_impl W v l s hb hs h)
  have HW := Lib.hid hW0
  have HB := Lib.hid hB
  have HBK := Lib.hid hbk
  have HRS := Lib.hid hrs
  have HRD := Lib.hid (h.keep hB)
  unfold maxLen at hs
  clear hW0 hB hbk hrs
  cases hok : scOk l s.data.toList
  · rw [if_neg (by decide)]
    rw [hok] at HI
    obtain ⟨A1, c1, rfl⟩ := rd_shp h
    generalize l.length = n1 at *
    clear h hb hok
    go_enter Try.func52, Try.ntmps52
    obtain ⟨q0, q1⟩ := sc_all HBK.out
    go_wp2_with fail
    rw [← HW.out]
    go_wp2_with fail
    refine (HI.out _ HRD.out).mono ?_; rintro e w1 ⟨rfl, hb1⟩
    have HB1 := Lib.hid (HB.out.trans (hb1.mono HB.out.size))
    have HR1 := Lib.hid (HRS.out.keep hb1)
    clear hb1 q0 q1
    obtain ⟨r0, r1, r2, r3⟩ := rg_all HR1.out
    have g0 := HR1.out.f 0 (by show 0 < 4; omega)
    have g1 := HR1.out.f 1 (by show 1 < 4; omega)
    have g2 := HR1.out.f 2 (by show 2 < 4; omega)
    have g3 := HR1.out.f 3 (by show 3 < 4; omega)
    go_wp2_with fail
    refine bodyPost_ret (v := .tuple #[.agg #[.int .u16 0, .int .u16 0, .int .i64 0, .int .i64 0], .bool false]) (by simp [results, Try.results52, go_sem, r0, r1, r2, r3]) rfl ⟨rfl, ?_⟩
    exact ((((HB1.out.setCell (p := ⟨w.heap.size + 1, 0, none⟩) (by show w.heap.size ≤ w.heap.size + 1; omega) _).setCell (p := ⟨w.heap.size + 1, 1, none⟩) (by show w.heap.size ≤ w.heap.size + 1; omega) _).setCell (p := ⟨w.heap.size + 1, 2, none⟩) (by show w.heap.size ≤ w.heap.size + 1; omega) _).setCell (p := ⟨w.heap.size + 1, 3, none⟩) (by show w.heap.size ≤ w.heap.size + 1; omega) _)
  · rw [if_pos rfl]
    rw [hok] at HI
    obtain ⟨hp1, hp2, hp3⟩ := scOk_parts hok
    obtain ⟨hp4, hp5⟩ := isB_r hp2
    have hpw := tpOk_wid hp1
    have hsz : s.data.toList.length = s.size := by simp
    rw [hsz] at hp3
    have HTP := Lib.hid (fun k hk => tpOk_le hp1 k hk)
    have HTL := Lib.hid (tp_len (tpOk_parts hp1).2.1 (tpOk_parts hp1).2.2)
    have HT1 := Lib.hid (fun k => tmF_lt (l.take k) 0 (by omega) (fun t ht => (of_decide_eq_true (List.all_eq_true.1 (tpOk_parts hp1).2.2 t (List.mem_of_mem_take ht)) : 1 ≤ t ∧ t ≤ 16).1))
    have HST := Lib.hid (fun k hk => tmF_take l k hk)
    have HSQ := Lib.hid (fun k hk => stQ_get s k hk)
    have HIN := Lib.hid (fun k hk => inR_at 48 49 s k hk hp5)
    have HQL : Hid ((stQ s.data.toList).length = s.size) := by show _ = _; rw [stQ_len]; simp
    have HSN := Lib.hid (fun k (hk : k < s.size) => rg_take (stQ s.data.toList) k (by rw [stQ_len, hsz]; exact hk))
    have HFU : Hid ((stQ s.data.toList).take s.size = stQ s.data.toList) := by show _ = _; rw [List.take_of_length_le (by rw [stQ_len, hsz]; omega)]
    have hs16 : s.size ≤ 16 := by omega
    have HTT : Hid (tmF (l.take l.length) 0 = tm l) := by show _ = _; rw [List.take_length]; rfl
    have HTW := Lib.hid hp3
    have HRL := Lib.hid (fun k => rg_lt ((stQ s.data.toList).take k))
    generalize stQ s.data.toList = Q at *
    generalize tm l = T at *
    clear hok hp1 hp2 hp3 hp4 hp5 hb hsz hs
    obtain ⟨A1, c1, rfl⟩ := rd_shp h
    have hnl : l.length ≤ 16 := HTL.out
    obtain ⟨n1, hn1⟩ : ∃ n1, n1 = l.length := ⟨_, rfl⟩
    have HN := Lib.hid hn1
    rw [← hn1] at HW HBK HRD HTT hnl HI
    rw [← hn1]
    clear h hn1 hpw
    go_enter Try.func52, Try.ntmps52
    obtain ⟨q0, q1⟩ := sc_all HBK.out
    go_wp2_with fail
    rw [← HW.out]
    go_wp2_with fail
    refine (HI.out _ HRD.out).mono ?_; rintro e w1 ⟨rfl, hb1⟩
    have HB1 := Lib.hid (HB.out.trans (hb1.mono HB.out.size))
    have HR1 := Lib.hid (HRS.out.keep hb1)
    have HK1 := Lib.hid (HBK.out.keep hb1)
    have HD1 := Lib.hid (HRD.out.keep hb1)
    clear hb1 q0 q1 HRD HBK HRS HB
    obtain ⟨W2, hW2⟩ : ∃ W2, W2 = w1.alloc (.cells #[.int .u16 0, .int .u16 0, .int .i64 s.size, .int .i64 0] 67) := ⟨_, rfl⟩
    have hri : RI w w1 (.slice A1 n1 c1) s 0 (tmF (l.take 0) 0) s.size 0 W2 := by rw [hW2]; exact ⟨Blk.new w1 (rgV 0 0 s.size 0) 67 _ rfl, (Below.refl _ _).alloc (Nat.le_refl _) _⟩
    have HRI := Lib.hid hri
    have HLT : Hid (w.heap.size + 1 < w1.heap.size) := HR1.out.2.2
    have HLU : Hid (w.heap.size < w1.heap.size) := HK1.out.2.2
    have hk2 : Bk W2 w.heap.size (scV (.slice A1 n1 c1) s) := HK1.out.keep hri.bel
    obtain ⟨q0, q1⟩ := sc_all HK1.out
    obtain ⟨p0, p1⟩ := sc_all hk2
    rw [hW2] at p0 p1
    have HW2 := Lib.hid hW2
    clear hri hW2 hk2
    go_wp2_with fail
    rw [← HW2.out]
    clear q0 q1 p0 p1
    go_loopw [19] (fun i wr => ∃ k : Nat, k ≤ n1 ∧ i = .int .i64 k ∧ RI w w1 (.slice A1 n1 c1) s 0 (tmF (l.take k) 0) s.size 0 wr) (fun i _ => n1 - (intOf i).toNat)
    case atStart => exact ⟨0, Nat.zero_le _, rfl, HRI.out⟩
    case round =>
      obtain ⟨k, hk, rfl, hri⟩ := hrel
      by_cases hlt : k < n1
      · have hkl : k < l.length := by have := HN.out; omega
        obtain ⟨b, o, rfl, hlt0, hc⟩ : ∃ b o, A1 = some ⟨b, o, none⟩ ∧ b < w1.heap.size ∧ ∀ i (h : i < l.length), w1.cell? ⟨b, o + i, none⟩ = some (.int .i64 l[i]) := by
          obtain ⟨A, n, c, e, hn, -, -, r⟩ := HD1.out
          injection e with e1 e2 e3
          obtain ⟨b, o, ea, h1, h2⟩ := r (by omega)
          exact ⟨b, o, e1.trans ea, h1, h2⟩
        have hc0 := (hri.bel.cell (p := ⟨b, o + k, none⟩) hlt0).trans (hc k hkl)
        have hk0 : (0 : Int) ≤ (k : Int) := by omega
        have hk1 : (k : Int) < (n1 : Int) := by omega
        have hst := HST.out k hkl
        have htp := HTP.out k hkl
        have htw := HTW.out
        have HKY := Lib.hid (tap_key (tmF (l.take k) 0) l[k] (HT1.out k) htp.1 (by omega))
        have hsh : l[k] ≤ 16 := by omega
        have hsh0 : (0 : Int) ≤ l[k] := by omega
        have hsh1 : (16 : Int) - l[k] ≤ 16 := by omega
        have hwr : IntKind.i64.wrap (16 - l[k]) = 16 - l[k] := IntWalk.i64_in _ (by omega)
        rw [← hst] at HKY
        obtain ⟨r0, r1, r2, r3⟩ := rgb_all hri.ring
        have f1 := hri.ring.frozen 1
        have HRR := Lib.hid hri
        clear hri hc hst htp htw
        generalize tmF (l.take k) 0 = a at *
        obtain ⟨a', ha'⟩ : ∃ a', tmF (l.take (k + 1)) 0 = a' := ⟨_, rfl⟩
        have HA := Lib.hid ha'
        rw [ha'] at HKY
        clear ha'
        generalize l[k] = y at *
        go_wp2_with fail
        go_region
        all_goals go_wp2_with fail
        refine ⟨⟨k + 1, by omega, by go_num, ?_⟩, by simp [intOf]; omega⟩
        rw [HA.out, HKY.out]
        exact HRR.out.set (Blk.dr (HRR.out.ring.set 1 _)) (gbd (gbs (gbb _ (Below.refl _ _)) 1 _))
      · obtain rfl : k = n1 := by omega
        rw [HTT.out] at hri
        have HR2 := Lib.hid hri
        obtain ⟨r0, r1, r2, r3⟩ := rgb_all hri.ring
        clear hri
        go_wp2_with fail
        clear r0 r1 r2 r3
        go_loopw [33] (fun i wr => ∃ j : Nat, j ≤ s.size ∧ i = .int .i64 j ∧ RI w w1 (.slice A1 k c1) s (rg (Q.take j)) T s.size (j % 16 : Nat) wr) (fun i _ => s.size - (intOf i).toNat)
        case atStart => exact ⟨0, Nat.zero_le _, rfl, HR2.out⟩
        case round =>
          obtain ⟨j, hj, rfl, hri⟩ := hrel
          obtain ⟨r0, r1, r2, r3⟩ := rgb_all hri.ring
          have hbx := HK1.out.keep hri.bel
          obtain ⟨q0, q1⟩ := sc_all hbx
          have HRR := Lib.hid hri
          clear hri hbx
          by_cases hlt : j < s.size
          · have hk0 : (0 : Int) ≤ (j : Int) := by omega
            have hk1 : (j : Int) < (s.size : Int) := by omega
            have hw1 : IntKind.i64.wrap ((s.size : Int) - 1) = (s.size : Int) - 1 := IntWalk.i64_in _ (by omega)
            have hw2 : IntKind.i64.wrap ((s.size : Int) - 1 - (j : Int)) = (s.size : Int) - 1 - (j : Int) := IntWalk.i64_in _ (by omega)
            have hi0 : (j : Int) ≤ (s.size : Int) - 1 := by omega
            have hi1 : (s.size : Int) - 1 - (j : Int) < (s.size : Int) := by omega
            have hi2 : ((s.size : Int) - 1 - (j : Int)).toNat = s.size - 1 - j := by omega
            have hi3 : s.size - 1 - j < s.size := by omega
            have HQ := Lib.hid (HSQ.out j hlt)
            have HY := Lib.hid (HIN.out (s.size - 1 - j) hi3)
            have HPU := Lib.hid (fun (b : Nat) hb => push_any (rg (Q.take j)) T (j % 16) b w1.heap.size s.size (HRL.out j) (Nat.mod_lt _ (by omega)) hb wr HRR.out.ring)
            go_wp2_with fail
            obtain ⟨y, hy⟩ : ∃ y, (s[s.size - 1 - j]'hi3).toNat = y := ⟨_, rfl⟩
            rw [hy] at HQ HY ⊢
            have hcv : ((y : Int) - 48) % 256 = ((y - 48 : Nat) : Int) := by have := HY.out; omega
            rw [hcv]
            refine (HPU.out _ (by have := HY.out; omega)).mono ?_; rintro e w9 ⟨rfl, hbl, hgr⟩
            have HR9 := Lib.hid (HRR.out.set hbl hgr)
            clear hbl hgr hcv r0 r1 r2 r3 q0 q1
            go_wp2_with fail
            go_roundw
            case rel =>
              refine ⟨j + 1, by omega, by go_num, ?_⟩
              rw [HSN.out j hlt, HQ.out]
              have := HR9.out
              rw [show (j % 16 + 1) % 16 = (j + 1) % 16 from by omega, rgS_mod] at this
              exact this
            case measure => simp [intOf]; omega
          · obtain rfl : j = s.size := by omega
            rw [HFU.out] at HRR
            have hr9 := HR1.out.keep HRR.out.bel
            obtain ⟨z0, z1, z2, z3⟩ := rg_all hr9
            have g0 := hr9.f 0 (by show 0 < 4; omega)
            have g1 := hr9.f 1 (by show 1 < 4; omega)
            have g2 := hr9.f 2 (by show 2 < 4; omega)
            have g3 := hr9.f 3 (by show 3 < 4; omega)
            have HB9 := Lib.hid (HB1.out.trans (HRR.out.bel.mono HB1.out.size))
            rw [HFU.out] at r0
            clear hr9
            go_wp2_with fail
            refine bodyPost_ret (v := .tuple #[.agg #[.int .u16 (rg Q), .int .u16 T, .int .i64 s.size, .int .i64 (s.size % 16 : Nat)], .bool true]) (by simp [results, Try.results52, go_sem, z0, z1, z2, z3]) rfl ⟨rfl, ?_⟩
            exact ((((HB9.out.setCell (p := ⟨w.heap.size + 1, 0, none⟩) (by show w.heap.size ≤ w.heap.size + 1; omega) _).setCell (p := ⟨w.heap.size + 1, 1, none⟩) (by show w.heap.size ≤ w.heap.size + 1; omega) _).setCell (p := ⟨w.heap.size + 1, 2, none⟩) (by show w.heap.size ≤ w.heap.size + 1; omega) _).setCell (p := ⟨w.heap.size + 1, 3, none⟩) (by show w.heap.size ≤ w.heap.size + 1; omega) _)
end Go.Proofs.Ytddlpbpcdjddpaa
