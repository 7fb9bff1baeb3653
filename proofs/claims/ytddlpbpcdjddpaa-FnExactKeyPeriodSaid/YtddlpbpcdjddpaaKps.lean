/- The model's KeyPeriod. -/
import Derived.Test.YtddlpbpcdjddpaaKpi
import Derived.Test.YtddlpbpcdjddpaaSbk
namespace Go.Proofs.Ytddlpbpcdjddpaa
open Go Go.RowKit
set_option linter.unusedVariables false
theorem getD_le {M : List Nat} (h : bitsN M) (i : Nat) : M.getD i 0 ≤ 1 := by
  rw [List.getD]
  cases e : M[i]?
  · simp
  · exact h _ (List.mem_of_getElem? e)
theorem nbF_take (u : List Nat) (k : Nat) (hk : k < u.length) : nbF (u.take (k + 1)) 0 = 2 * nbF (u.take k) 0 + u.getD k 0 := by
  unfold nbF
  rw [List.take_succ_eq_append_getElem hk, List.foldl_append, List.getD, List.getElem?_eq_getElem hk]
  rfl
theorem nbF_bd {u : List Nat} (hu : bitsN u) (h16 : u.length ≤ 16) (k : Nat) : nbF (u.take k) 0 < 65536 := by
  have h1 := nb_lt (u.take k) (fun x hx => hu x (List.mem_of_mem_take hx))
  have h2 : 2 ^ (u.take k).length ≤ 2 ^ 16 := Nat.pow_le_pow_right (by omega) (by rw [List.length_take]; omega)
  exact Nat.lt_of_lt_of_le h1 h2

set_option maxRecDepth 100000 in
theorem l06Number_any (w : World) (v : Value) (u : List Nat) (hu : bitsN u) (h16 : u.length ≤ 16) (h : RdN w v u) :
    Calls Try.prog 50 #[v] w fun e w' => e = .returned (.int .i64 (nb u : Nat)) ∧ w' = w := by
  have HT := Lib.hid (fun k hk => nbF_take u k hk)
  have HBD := Lib.hid (fun k => nbF_bd hu h16 k)
  have HG := Lib.hid (fun i => getD_le hu i)
  have HF : Hid (nbF (u.take u.length) 0 = nb u) := by show _ = _; rw [List.take_length]; rfl
  obtain ⟨A, c, rfl, hc, hm, r⟩ := h
  obtain ⟨n, hn⟩ : ∃ n, u.length = n := ⟨_, rfl⟩
  have HN := Lib.hid hn
  have HR := Lib.hid r
  rw [hn] at h16 ⊢
  clear hc hm hn r hu
  go_enter Try.func50, Try.ntmps50
  go_wp2_with fail
  go_loop [3, 4] (fun a i => ∃ k : Nat, k ≤ n ∧ i = .int .i64 k ∧ a = .int .i64 (nbF (u.take k) 0 : Nat)) (fun _ i => n - (intOf i).toNat)
  case atStart => exact ⟨0, Nat.zero_le _, rfl, rfl⟩
  case round =>
    obtain ⟨k, hk, rfl, rfl⟩ := hrel
    by_cases hlt : k < n
    · obtain ⟨b, o, rfl, hlt0, hcc⟩ := HR.out (by have := HN.out; omega)
      have hc0 := hcc k (by have := HN.out; omega)
      have hT := HT.out k (by have := HN.out; omega)
      have hb := HBD.out k
      have hg := HG.out k
      generalize u.getD k 0 = z at *
      obtain ⟨a', ha'⟩ : ∃ a', nbF (u.take (k + 1)) 0 = a' := ⟨_, rfl⟩
      rw [ha'] at hT
      have HA := Lib.hid ha'
      have HTT := Lib.hid hT
      generalize nbF (u.take k) 0 = a at *
      have hk0 : (0 : Int) ≤ (k : Int) := by omega
      have hk1 : (k : Int) < (n : Int) := by omega
      have hw1 : IntKind.i64.wrap (2 * (a : Int)) = 2 * (a : Int) := IntWalk.i64_in _ (by omega)
      have hw2 : IntKind.i64.wrap (2 * (a : Int) + (z : Int)) = 2 * (a : Int) + (z : Int) := IntWalk.i64_in _ (by omega)
      clear hcc hT ha'
      go_wp2_with fail
      go_round
      case rel => exact ⟨k + 1, by omega, by go_num, by rw [HA.out, HTT.out]; go_num⟩
      case measure => simp [intOf]; omega
    · obtain rfl : k = n := by omega
      have HE : Hid (nbF (u.take k) 0 = nb u) := by show _ = _; rw [← HN.out]; exact HF.out
      go_wp2_with fail
      go_ret
      exact ⟨ret_int (by rw [HE.out]), rfl⟩

set_option maxRecDepth 100000 in
set_option maxHeartbeats 1600000 in
theorem keyPeriod_spec (w : World) (v : Value) (l : List Int) (s : ByteArray) (hb : ∀ n ∈ l, -9223372036854775808 ≤ n ∧ n ≤ 9223372036854775807) (hs : s.size ≤ maxLen) (h : Rd w v l) :
    Calls Try.prog 19 #[.agg #[v, .string s]] w fun e w' =>
      e = .returned (.tuple #[.int .i64 (kpV l s.data.toList), .bool (scOk l s.data.toList)]) ∧ Below w.heap.size w w' := by
  obtain ⟨i0, hi, hz0, hz1, hz2⟩ := info_parts Try.infoByte
  have hB : Below w.heap.size w (w.alloc (.cells #[v, .string s] 28)) := (Below.refl _ _).alloc (Nat.le_refl _) _
  have hbk : Bk (w.alloc (.cells #[v, .string s] 28)) w.heap.size (scV v s) := Bk.new w (scV v s) 28 _ rfl
  have HI := Lib.hid (l06Is_any _ w.heap.size v s l hb hs hbk (h.keep hB))
  have HB := Lib.hid hB
  have HBK := Lib.hid hbk
  have HRD := Lib.hid (h.keep hB)
  have hE : kpV l s.data.toList = if scOk l s.data.toList then (kpN l (stQ s.data.toList) : Int) else 0 := rfl
  obtain ⟨A1, c1, rfl⟩ := rd_shp h
  obtain ⟨n1, hn1⟩ : ∃ n1, n1 = l.length := ⟨_, rfl⟩
  rw [← hn1] at HBK HB HRD HI ⊢
  clear h hB hbk hn1 hb hs
  cases hok : scOk l s.data.toList
  · rw [hok, if_neg (by decide)] at hE
    rw [hE]
    rw [hok] at HI
    clear hE hok
    go_enter Try.func19, Try.ntmps19
    go_wp2_with fail
    refine HI.out.mono ?_; rintro e w1 ⟨rfl, q, rfl⟩
    go_wp2_with fail
    go_ret2
    exact ⟨rfl, below_drewN HB.out q⟩
  · rw [hok, if_pos rfl] at hE
    rw [hE]
    rw [hok] at HI
    obtain ⟨hp1, hp2, hp3⟩ := scOk_parts hok
    obtain ⟨hp4, hp5⟩ := isB_r hp2
    have hsz : (stQ s.data.toList).length = s.size := by rw [stQ_len]; simp
    have hwe : ((stQ s.data.toList).length : Int) = wid l := by rw [stQ_len]; exact hp3
    have hQ := stQ_bits hp5
    have hpw := tpOk_wid hp1
    have hs16 : s.size ≤ 16 := by omega
    have hs1 : 1 ≤ s.size := by omega
    have HBF := Lib.hid (fun W => l06Before_any W s (by omega) hp5)
    have HWN := Lib.hid (fun k => wn_ok (l := l) hQ (by omega) k)
    have HSU := Lib.hid (fun W v u k h h2 => l06Sum_any W v u l (wn l (stQ s.data.toList) k) hp1 (wn_ok (l := l) hQ (by omega) k).1 (by rw [(wn_ok (l := l) hQ (by omega) k).2]; omega) h h2)
    have HNU := Lib.hid (fun W v k h => l06Number_any W v (wn l (stQ s.data.toList) k) (wn_ok (l := l) hQ (by omega) k).1 (by rw [(wn_ok (l := l) hQ (by omega) k).2]; omega) h)
    have HNI : Hid (∀ k, nb (wn l (stQ s.data.toList) k) = nb (stQ s.data.toList) → wn l (stQ s.data.toList) k = stQ s.data.toList) := by
      show ∀ _, _
      intro k h
      exact nb_inj _ _ (wn_ok (l := l) hQ (by omega) k).1 hQ (wn_ok (l := l) hQ (by omega) k).2 h
    obtain ⟨p1, p2, p3, p4⟩ := kpN_ok hp1 hQ hwe
    have HP3 := Lib.hid p3
    have HP4 := Lib.hid p4
    clear hE hok hp1 hp2 hp3 hp4 hp5 hwe hQ hpw p3 p4
    generalize stQ s.data.toList = Q at *
    obtain ⟨P, hP⟩ : ∃ P, P = kpN l Q := ⟨_, rfl⟩
    rw [← hP] at p1 p2 HP3 HP4 ⊢
    clear hP
    go_enter Try.func19, Try.ntmps19
    go_wp2_with fail
    refine HI.out.mono ?_; rintro e w1 ⟨rfl, nq, rfl⟩
    have HB1 := Lib.hid (below_drewN HB.out nq)
    have HK1 := Lib.hid (HBK.out.drewN nq)
    have HR1 := Lib.hid (HRD.out.drewN nq)
    clear HB HBK HRD HI
    generalize (w.alloc (.cells #[.slice A1 n1 c1, .string s] 28)).drewN nq = W1 at *
    obtain ⟨q0, q1⟩ := sc_all HK1.out
    go_wp2_with fail
    refine (HBF.out _).mono ?_; rintro e w3 ⟨v3, rfl, ho3, hb3⟩
    clear q0 q1
    have HO3 := Lib.hid ho3
    have HB3 := Lib.hid hb3
    clear ho3 hb3
    go_wp2_with fail
    refine (HNU.out _ _ 0 HO3.out.rdn).mono ?_; rintro e w' ⟨rfl, hw'⟩
    obtain rfl := hw'.symm
    have HF0 : Hid (nb (wn l Q 0) = nb Q) := rfl
    go_wp2_with fail
    go_loopw [4, 6] (fun u i wr => ∃ k : Nat, k ≤ P ∧ i = .int .i64 k ∧ OwnN wr W1.heap.size u (wn l Q k) ∧ Below W1.heap.size W1 wr) (fun _ i _ => P - (intOf i).toNat)
    case atStart => exact ⟨0, Nat.zero_le _, rfl, HO3.out, HB3.out⟩
    case round =>
      obtain ⟨k, hk, rfl, hown, hbw⟩ := hrel
      have hlen : (wn l Q k).length = s.size := by rw [(HWN.out k).2, hsz]
      by_cases hk0 : k = 0
      · subst hk0
        have hkP : 0 < P := by omega
        have hqz : ((0 : Int) == 0) = true := rfl
        obtain ⟨g, c, rfl, hg1, hg2, hg3, hg4⟩ := own_some hown (by rw [hlen]; omega)
        have HOD := Lib.hid hown
        have HBD := Lib.hid hbw
        have hkd := HK1.out.keep hbw
        have hcl := (OwnN.rdn hown)
        have HNX : Hid (wn l Q (0 + 1) = (wn l Q 0).drop 1 ++ [sm l (wn l Q 0)]) := rfl
        have HCE : Hid (∀ j, j + 1 < (wn l Q 0).length → wr.cell? ⟨g, j + 1, none⟩ = some (.int .u8 ((wn l Q 0).getD (j + 1) 0 : Nat))) := by
          show ∀ _ _, _
          intro j hj
          obtain ⟨A', c', e', -, -, r3⟩ := hcl
          injection e' with e1 e2 e3
          obtain ⟨b', o', ea, -, hcc⟩ := r3 (by omega)
          rw [ea] at e1
          injection e1 with e1
          injection e1 with e1 e2 e3
          have := hcc (j + 1) hj
          rw [← e1, ← e2, Nat.zero_add] at this
          exact this
        have HMADE : Hid ((wr.alloc (.cells #[] 5)).ownsRow wr.heap.size 5 1 (.slice (some ⟨wr.heap.size, 0, none⟩) 0 0) 0 []) := World.ownsRow_made wr #[] 0 (Nat.le_refl _) (by decide) rfl
        have HSUM := Lib.hid (fun W h h2 => HSU.out W (.slice A1 n1 c1) (.slice (some ⟨g, 0, none⟩) (wn l Q 0).length c) 0 h h2)
        have HG1 := Lib.hid hg1
        have HG2 := Lib.hid hg2
        rw [hlen] at HSUM hg3 ⊢
        have hN1 : (1 : Int) ≤ (s.size : Int) := by omega
        have hN2 : (1 : Int) ≤ (c : Int) := by omega
        have hdl : ((wn l Q 0).drop 1).length = s.size - 1 := by rw [List.length_drop, hlen]
        have HDL := Lib.hid hdl
        have HLE := Lib.hid hlen
        have HPB := Lib.hid (fun j x => show (natVals ((wn l Q 0).drop 1))[j]? = some x → (wr.alloc (.cells #[] 5)).cell? ⟨g, j + 1, none⟩ = some x from by
          intro hx
          unfold natVals at hx
          rw [List.getElem?_map, List.getElem?_drop] at hx
          cases e : (wn l Q 0)[1 + j]? with
          | none => rw [e] at hx; cases hx
          | some y =>
            rw [e] at hx
            injection hx with hx
            have hlt := (List.getElem?_eq_some_iff.1 e).1
            have := (((Below.refl wr.heap.size wr).alloc (Nat.le_refl _) (.cells #[] 5)).cell (p := ⟨g, j + 1, none⟩) HG2.out).trans (HCE.out j (by omega))
            rw [this, ← hx, List.getD, Nat.add_comm j 1, e]
            rfl)
        clear hown hbw hcl hdl hlen hg1 hg2
        obtain ⟨ad, hadv⟩ : ∃ ad : Addr, ad = if c = 1 then ⟨g, 0, none⟩ else ⟨g, 1, none⟩ := ⟨_, rfl⟩
        by_cases hce : c = 1
        · subst hce
          have hs1' : s.size = 1 := by omega
          try rw [hs1'] at HCN
          have hd0 : (wn l Q 0).drop 1 = [] := List.length_eq_zero_iff.1 (by rw [HDL.out]; omega)
          have HD0 := Lib.hid hd0
          clear hd0 hadv hg4
          go_wp2_with (at_builtin; refine wpList_append_own _ rfl _ _ 41 rfl wr.heap.size 5 i0 (.int .u8 0) 1 1 Try.underlying41 hi hz0 hz1 hz2 rfl (by decide) _ 0 _ rfl HMADE.out ⟨g, 0, none⟩ 0 0 [] rfl ?c0 ?c1 ?c2 ?c3 ?c4 ?c5 ?_)
          case c0 => first | rfl | (rw [natVals_length, HDL.out]; omega)
          case c1 => intro j x hx; simp at hx
          case c2 => intro u hu; first | (simp at hu; done) | (unfold natVals at hu; obtain ⟨y, -, rfl⟩ := List.mem_map.1 hu; rfl)
          case c3 => unfold maxLen; omega
          case c4 => omega
          case c5 => simp
          intro v7 w7 hown7 hgrow7 _
          have hb7 : Below wr.heap.size wr w7 := ((Below.refl wr.heap.size wr).alloc (Nat.le_refl _) _).grown hgrow7 (by simp) (fun i hk => by simp [Value.ownBlock] at hk; omega)
          have HO7 : Hid (OwnN w7 wr.heap.size v7 ((wn l Q 0).drop 1)) := by
            show OwnN _ _ _ _
            unfold OwnN
            first
              | (rw [HDL.out]; simpa using hown7)
              | (rw [HD0.out]; simpa [natVals] using hown7)
          have HB7 := Lib.hid hb7
          have HC := Lib.hid (HSUM.out w7 (HR1.out.keep (HBD.out.trans (hb7.mono HBD.out.size))) ((OwnN.keep (by have := HOD.out; rw [HLE.out] at this; exact this) hb7).rdn))
          rw [hs1'] at HC
          obtain ⟨q0, q1⟩ := sc_all (hkd.keep hb7)
          clear hown7 hgrow7 hb7 HMADE HPB HCE hkd
          generalize sm l (wn l Q 0) = z at *
          go_wp2_with fail
          refine (HC.out).mono ?_; rintro e w' ⟨rfl, hw'⟩
          obtain rfl := hw'.symm
          have hwn7 := HO7.out
          unfold OwnN at hwn7
          obtain ⟨L7, hL7⟩ : ∃ L7, L7 = natVals ((wn l Q 0).drop 1) := ⟨_, rfl⟩
          rw [HDL.out, ← hL7] at hwn7
          go_wp2_with (at_builtin; refine wpList_append_own _ rfl _ _ 41 rfl wr.heap.size 5 i0 (.int .u8 0) 1 1 Try.underlying41 hi hz0 hz1 hz2 rfl (by decide) _ _ _ rfl (hwn7.alloc _) ⟨w7.heap.size, 0, none⟩ 1 1 [.int .u8 (z : Int)] rfl rfl ?d1 ?d2 ?d3 ?d4 ?d5 ?_)
          case d1 => exact c1_one _ _ _
          case d2 => intro u hu; simp at hu; subst hu; rfl
          case d3 => unfold maxLen; omega
          case d4 => omega
          case d5 => have := HB7.out.size; simp; omega
          intro v8 w8 hown8 hgrow8 _
          have hown9 : w8.ownsRow wr.heap.size 5 1 v8 (((wn l Q 0).drop 1).length + 1) (natVals ((wn l Q 0).drop 1) ++ [.int .u8 (z : Int)]) := by
            rw [HDL.out]
            first | (rw [show s.size - 1 + 1 = s.size from by omega]; simpa using hown8) | (rw [show s.size - 1 + 1 = 1 from by omega]; simpa using hown8)
          have hb8 := below_app HB7.out HB7.out.size HO7.out hgrow8
          have ho8 : OwnN w8 W1.heap.size v8 (wn l Q (0 + 1)) := by
            rw [HNX.out]
            exact OwnN.low (ownN_snoc hown9) HBD.out.size
          clear hown8 hown9 hgrow8 q0 q1
          go_wp2_with fail
          go_roundw
          case rel => exact ⟨0 + 1, by omega, by go_num, ho8, HBD.out.trans (hb8.mono HBD.out.size)⟩
          case measure => simp [intOf]; omega
        · clear hadv
          go_wp2_with (at_builtin; refine wpList_append_own _ rfl _ _ 41 rfl wr.heap.size 5 i0 (.int .u8 0) 1 1 Try.underlying41 hi hz0 hz1 hz2 rfl (by decide) _ 0 _ rfl HMADE.out ⟨g, 1, none⟩ (s.size - 1) (c - 1) (natVals ((wn l Q 0).drop 1)) rfl ?c0 ?c1 ?c2 ?c3 ?c4 ?c5 ?_)
          case c0 => first | rfl | (rw [natVals_length, HDL.out]; omega)
          case c1 => intro j x hx; rw [show (⟨g, 1, none⟩ : Addr).add j = ⟨g, j + 1, none⟩ from by simp [Addr.add, Nat.add_comm]]; exact HPB.out j x hx
          case c2 => intro u hu; first | (simp at hu; done) | (unfold natVals at hu; obtain ⟨y, -, rfl⟩ := List.mem_map.1 hu; rfl)
          case c3 => unfold maxLen; omega
          case c4 => omega
          case c5 => simp
          intro v7 w7 hown7 hgrow7 _
          have hb7 : Below wr.heap.size wr w7 := ((Below.refl wr.heap.size wr).alloc (Nat.le_refl _) _).grown hgrow7 (by simp) (fun i hk => by simp [Value.ownBlock] at hk; omega)
          have HO7 : Hid (OwnN w7 wr.heap.size v7 ((wn l Q 0).drop 1)) := by
            show OwnN _ _ _ _
            unfold OwnN
            first
              | (rw [HDL.out]; simpa using hown7)
              | (rw [HD0.out]; simpa [natVals] using hown7)
          have HB7 := Lib.hid hb7
          have HC := Lib.hid (HSUM.out w7 (HR1.out.keep (HBD.out.trans (hb7.mono HBD.out.size))) ((OwnN.keep (by have := HOD.out; rw [HLE.out] at this; exact this) hb7).rdn))
          obtain ⟨q0, q1⟩ := sc_all (hkd.keep hb7)
          clear hown7 hgrow7 hb7 HMADE HPB HCE hkd
          generalize sm l (wn l Q 0) = z at *
          go_wp2_with fail
          refine (HC.out).mono ?_; rintro e w' ⟨rfl, hw'⟩
          obtain rfl := hw'.symm
          have hwn7 := HO7.out
          unfold OwnN at hwn7
          obtain ⟨L7, hL7⟩ : ∃ L7, L7 = natVals ((wn l Q 0).drop 1) := ⟨_, rfl⟩
          rw [HDL.out, ← hL7] at hwn7
          go_wp2_with (at_builtin; refine wpList_append_own _ rfl _ _ 41 rfl wr.heap.size 5 i0 (.int .u8 0) 1 1 Try.underlying41 hi hz0 hz1 hz2 rfl (by decide) _ _ _ rfl (hwn7.alloc _) ⟨w7.heap.size, 0, none⟩ 1 1 [.int .u8 (z : Int)] rfl rfl ?d1 ?d2 ?d3 ?d4 ?d5 ?_)
          case d1 => exact c1_one _ _ _
          case d2 => intro u hu; simp at hu; subst hu; rfl
          case d3 => unfold maxLen; omega
          case d4 => omega
          case d5 => have := HB7.out.size; simp; omega
          intro v8 w8 hown8 hgrow8 _
          have hown9 : w8.ownsRow wr.heap.size 5 1 v8 (((wn l Q 0).drop 1).length + 1) (natVals ((wn l Q 0).drop 1) ++ [.int .u8 (z : Int)]) := by
            rw [HDL.out]
            first | (rw [show s.size - 1 + 1 = s.size from by omega]; simpa using hown8) | (rw [show s.size - 1 + 1 = 1 from by omega]; simpa using hown8)
          have hb8 := below_app HB7.out HB7.out.size HO7.out hgrow8
          have ho8 : OwnN w8 W1.heap.size v8 (wn l Q (0 + 1)) := by
            rw [HNX.out]
            exact OwnN.low (ownN_snoc hown9) HBD.out.size
          clear hown8 hown9 hgrow8 q0 q1
          go_wp2_with fail
          go_roundw
          case rel => exact ⟨0 + 1, by omega, by go_num, ho8, HBD.out.trans (hb8.mono HBD.out.size)⟩
          case measure => simp [intOf]; omega
      · by_cases hkP : k = P
        · subst hkP
          have HCN := Lib.hid (HNU.out wr _ k hown.rdn)
          have hqz : ((k : Int) == 0) = false := beq_f (by omega)
          have heq : nb (wn l Q k) = nb (wn l Q 0) := by rw [HP3.out]; rfl
          rw [heq] at HCN
          have HBD := Lib.hid hbw
          generalize nb (wn l Q 0) = F0 at *
          have hne : ((F0 : Int) != (F0 : Int)) = false := by simp
          clear hown hbw hlen heq
          go_wp2_with fail
          refine (HCN.out).mono ?_; rintro e w' ⟨rfl, hw'⟩
          obtain rfl := hw'.symm
          go_wp2_with fail
          go_ret2
          exact ⟨rfl, HB1.out.trans (HBD.out.mono HB1.out.size)⟩
        · skip
          have hkP : k < P := by omega
          have hqz : ((k : Int) == 0) = false := beq_f (by omega)
          have HCN := Lib.hid (HNU.out wr _ k hown.rdn)
          have hne : ((nb (wn l Q k) : Int) != (nb (wn l Q 0) : Int)) = true := bne_t (fun e => HP4.out k (by omega) (by omega) (HNI.out k (by rw [← HF0.out]; omega)))
          obtain ⟨g, c, rfl, hg1, hg2, hg3, hg4⟩ := own_some hown (by rw [hlen]; omega)
          have HOD := Lib.hid hown
          have HBD := Lib.hid hbw
          have hkd := HK1.out.keep hbw
          have hcl := (OwnN.rdn hown)
          have HNX : Hid (wn l Q (k + 1) = (wn l Q k).drop 1 ++ [sm l (wn l Q k)]) := rfl
          have HCE : Hid (∀ j, j + 1 < (wn l Q k).length → wr.cell? ⟨g, j + 1, none⟩ = some (.int .u8 ((wn l Q k).getD (j + 1) 0 : Nat))) := by
            show ∀ _ _, _
            intro j hj
            obtain ⟨A', c', e', -, -, r3⟩ := hcl
            injection e' with e1 e2 e3
            obtain ⟨b', o', ea, -, hcc⟩ := r3 (by omega)
            rw [ea] at e1
            injection e1 with e1
            injection e1 with e1 e2 e3
            have := hcc (j + 1) hj
            rw [← e1, ← e2, Nat.zero_add] at this
            exact this
          have HMADE : Hid ((wr.alloc (.cells #[] 5)).ownsRow wr.heap.size 5 1 (.slice (some ⟨wr.heap.size, 0, none⟩) 0 0) 0 []) := World.ownsRow_made wr #[] 0 (Nat.le_refl _) (by decide) rfl
          have HSUM := Lib.hid (fun W h h2 => HSU.out W (.slice A1 n1 c1) (.slice (some ⟨g, 0, none⟩) (wn l Q k).length c) k h h2)
          have HG1 := Lib.hid hg1
          have HG2 := Lib.hid hg2
          rw [hlen] at HSUM hg3 ⊢
          have hN1 : (1 : Int) ≤ (s.size : Int) := by omega
          have hN2 : (1 : Int) ≤ (c : Int) := by omega
          have hdl : ((wn l Q k).drop 1).length = s.size - 1 := by rw [List.length_drop, hlen]
          have HDL := Lib.hid hdl
          have HLE := Lib.hid hlen
          have HPB := Lib.hid (fun j x => show (natVals ((wn l Q k).drop 1))[j]? = some x → (wr.alloc (.cells #[] 5)).cell? ⟨g, j + 1, none⟩ = some x from by
            intro hx
            unfold natVals at hx
            rw [List.getElem?_map, List.getElem?_drop] at hx
            cases e : (wn l Q k)[1 + j]? with
            | none => rw [e] at hx; cases hx
            | some y =>
              rw [e] at hx
              injection hx with hx
              have hlt := (List.getElem?_eq_some_iff.1 e).1
              have := (((Below.refl wr.heap.size wr).alloc (Nat.le_refl _) (.cells #[] 5)).cell (p := ⟨g, j + 1, none⟩) HG2.out).trans (HCE.out j (by omega))
              rw [this, ← hx, List.getD, Nat.add_comm j 1, e]
              rfl)
          clear hown hbw hcl hdl hlen hg1 hg2
          rw [HLE.out] at HCN
          generalize nb (wn l Q k) = Fk at *
          generalize nb (wn l Q 0) = F0 at *
          obtain ⟨ad, hadv⟩ : ∃ ad : Addr, ad = if c = 1 then ⟨g, 0, none⟩ else ⟨g, 1, none⟩ := ⟨_, rfl⟩
          by_cases hce : c = 1
          · subst hce
            have hs1' : s.size = 1 := by omega
            try rw [hs1'] at HCN
            have hd0 : (wn l Q k).drop 1 = [] := List.length_eq_zero_iff.1 (by rw [HDL.out]; omega)
            have HD0 := Lib.hid hd0
            clear hd0 hadv hg4
            go_wp2_with fail
            refine (HCN.out).mono ?_; rintro e w' ⟨rfl, hw'⟩
            obtain rfl := hw'.symm
            go_wp2_with (at_builtin; refine wpList_append_own _ rfl _ _ 41 rfl wr.heap.size 5 i0 (.int .u8 0) 1 1 Try.underlying41 hi hz0 hz1 hz2 rfl (by decide) _ 0 _ rfl HMADE.out ⟨g, 0, none⟩ 0 0 [] rfl ?c0 ?c1 ?c2 ?c3 ?c4 ?c5 ?_)
            case c0 => first | rfl | (rw [natVals_length, HDL.out]; omega)
            case c1 => intro j x hx; simp at hx
            case c2 => intro u hu; first | (simp at hu; done) | (unfold natVals at hu; obtain ⟨y, -, rfl⟩ := List.mem_map.1 hu; rfl)
            case c3 => unfold maxLen; omega
            case c4 => omega
            case c5 => simp
            intro v7 w7 hown7 hgrow7 _
            have hb7 : Below wr.heap.size wr w7 := ((Below.refl wr.heap.size wr).alloc (Nat.le_refl _) _).grown hgrow7 (by simp) (fun i hk => by simp [Value.ownBlock] at hk; omega)
            have HO7 : Hid (OwnN w7 wr.heap.size v7 ((wn l Q k).drop 1)) := by
              show OwnN _ _ _ _
              unfold OwnN
              first
                | (rw [HDL.out]; simpa using hown7)
                | (rw [HD0.out]; simpa [natVals] using hown7)
            have HB7 := Lib.hid hb7
            have HC := Lib.hid (HSUM.out w7 (HR1.out.keep (HBD.out.trans (hb7.mono HBD.out.size))) ((OwnN.keep (by have := HOD.out; rw [HLE.out] at this; exact this) hb7).rdn))
            rw [hs1'] at HC
            obtain ⟨q0, q1⟩ := sc_all (hkd.keep hb7)
            clear hown7 hgrow7 hb7 HMADE HPB HCE hkd
            generalize sm l (wn l Q k) = z at *
            go_wp2_with fail
            refine (HC.out).mono ?_; rintro e w' ⟨rfl, hw'⟩
            obtain rfl := hw'.symm
            have hwn7 := HO7.out
            unfold OwnN at hwn7
            obtain ⟨L7, hL7⟩ : ∃ L7, L7 = natVals ((wn l Q k).drop 1) := ⟨_, rfl⟩
            rw [HDL.out, ← hL7] at hwn7
            go_wp2_with (at_builtin; refine wpList_append_own _ rfl _ _ 41 rfl wr.heap.size 5 i0 (.int .u8 0) 1 1 Try.underlying41 hi hz0 hz1 hz2 rfl (by decide) _ _ _ rfl (hwn7.alloc _) ⟨w7.heap.size, 0, none⟩ 1 1 [.int .u8 (z : Int)] rfl rfl ?d1 ?d2 ?d3 ?d4 ?d5 ?_)
            case d1 => exact c1_one _ _ _
            case d2 => intro u hu; simp at hu; subst hu; rfl
            case d3 => unfold maxLen; omega
            case d4 => omega
            case d5 => have := HB7.out.size; simp; omega
            intro v8 w8 hown8 hgrow8 _
            have hown9 : w8.ownsRow wr.heap.size 5 1 v8 (((wn l Q k).drop 1).length + 1) (natVals ((wn l Q k).drop 1) ++ [.int .u8 (z : Int)]) := by
              rw [HDL.out]
              first | (rw [show s.size - 1 + 1 = s.size from by omega]; simpa using hown8) | (rw [show s.size - 1 + 1 = 1 from by omega]; simpa using hown8)
            have hb8 := below_app HB7.out HB7.out.size HO7.out hgrow8
            have ho8 : OwnN w8 W1.heap.size v8 (wn l Q (k + 1)) := by
              rw [HNX.out]
              exact OwnN.low (ownN_snoc hown9) HBD.out.size
            clear hown8 hown9 hgrow8 q0 q1
            go_wp2_with fail
            go_roundw
            case rel => exact ⟨k + 1, by omega, by go_num, ho8, HBD.out.trans (hb8.mono HBD.out.size)⟩
            case measure => simp [intOf]; omega
          · clear hadv
            go_wp2_with fail
            refine (HCN.out).mono ?_; rintro e w' ⟨rfl, hw'⟩
            obtain rfl := hw'.symm
            go_wp2_with (at_builtin; refine wpList_append_own _ rfl _ _ 41 rfl wr.heap.size 5 i0 (.int .u8 0) 1 1 Try.underlying41 hi hz0 hz1 hz2 rfl (by decide) _ 0 _ rfl HMADE.out ⟨g, 1, none⟩ (s.size - 1) (c - 1) (natVals ((wn l Q k).drop 1)) rfl ?c0 ?c1 ?c2 ?c3 ?c4 ?c5 ?_)
            case c0 => first | rfl | (rw [natVals_length, HDL.out]; omega)
            case c1 => intro j x hx; rw [show (⟨g, 1, none⟩ : Addr).add j = ⟨g, j + 1, none⟩ from by simp [Addr.add, Nat.add_comm]]; exact HPB.out j x hx
            case c2 => intro u hu; first | (simp at hu; done) | (unfold natVals at hu; obtain ⟨y, -, rfl⟩ := List.mem_map.1 hu; rfl)
            case c3 => unfold maxLen; omega
            case c4 => omega
            case c5 => simp
            intro v7 w7 hown7 hgrow7 _
            have hb7 : Below wr.heap.size wr w7 := ((Below.refl wr.heap.size wr).alloc (Nat.le_refl _) _).grown hgrow7 (by simp) (fun i hk => by simp [Value.ownBlock] at hk; omega)
            have HO7 : Hid (OwnN w7 wr.heap.size v7 ((wn l Q k).drop 1)) := by
              show OwnN _ _ _ _
              unfold OwnN
              first
                | (rw [HDL.out]; simpa using hown7)
                | (rw [HD0.out]; simpa [natVals] using hown7)
            have HB7 := Lib.hid hb7
            have HC := Lib.hid (HSUM.out w7 (HR1.out.keep (HBD.out.trans (hb7.mono HBD.out.size))) ((OwnN.keep (by have := HOD.out; rw [HLE.out] at this; exact this) hb7).rdn))
            obtain ⟨q0, q1⟩ := sc_all (hkd.keep hb7)
            clear hown7 hgrow7 hb7 HMADE HPB HCE hkd
            generalize sm l (wn l Q k) = z at *
            go_wp2_with fail
            refine (HC.out).mono ?_; rintro e w' ⟨rfl, hw'⟩
            obtain rfl := hw'.symm
            have hwn7 := HO7.out
            unfold OwnN at hwn7
            obtain ⟨L7, hL7⟩ : ∃ L7, L7 = natVals ((wn l Q k).drop 1) := ⟨_, rfl⟩
            rw [HDL.out, ← hL7] at hwn7
            go_wp2_with (at_builtin; refine wpList_append_own _ rfl _ _ 41 rfl wr.heap.size 5 i0 (.int .u8 0) 1 1 Try.underlying41 hi hz0 hz1 hz2 rfl (by decide) _ _ _ rfl (hwn7.alloc _) ⟨w7.heap.size, 0, none⟩ 1 1 [.int .u8 (z : Int)] rfl rfl ?d1 ?d2 ?d3 ?d4 ?d5 ?_)
            case d1 => exact c1_one _ _ _
            case d2 => intro u hu; simp at hu; subst hu; rfl
            case d3 => unfold maxLen; omega
            case d4 => omega
            case d5 => have := HB7.out.size; simp; omega
            intro v8 w8 hown8 hgrow8 _
            have hown9 : w8.ownsRow wr.heap.size 5 1 v8 (((wn l Q k).drop 1).length + 1) (natVals ((wn l Q k).drop 1) ++ [.int .u8 (z : Int)]) := by
              rw [HDL.out]
              first | (rw [show s.size - 1 + 1 = s.size from by omega]; simpa using hown8) | (rw [show s.size - 1 + 1 = 1 from by omega]; simpa using hown8)
            have hb8 := below_app HB7.out HB7.out.size HO7.out hgrow8
            have ho8 : OwnN w8 W1.heap.size v8 (wn l Q (k + 1)) := by
              rw [HNX.out]
              exact OwnN.low (ownN_snoc hown9) HBD.out.size
            clear hown8 hown9 hgrow8 q0 q1
            go_wp2_with fail
            go_roundw
            case rel => exact ⟨k + 1, by omega, by go_num, ho8, HBD.out.trans (hb8.mono HBD.out.size)⟩
            case measure => simp [intOf]; omega
end Go.Proofs.Ytddlpbpcdjddpaa
