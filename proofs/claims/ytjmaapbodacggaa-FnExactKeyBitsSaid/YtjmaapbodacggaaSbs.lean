/- The model's SelfScramble. -/
import Derived.Test.YtjmaapbodacggaaSbm
import Derived.Deep.RegionLaw
import Derived.Deep.AppendLies
import Derived.Test.YtjmaapbodacggaaScd
import Derived.Test.YtjmaapbodacggaaRgo
namespace Go.Proofs.Ytjmaapbodacggaa
open Go Go.RowKit
set_option linter.unusedVariables false
theorem ownN_drew {w : World} {base : Nat} {v : Value} {q : List Nat} (h : OwnN w base v q) : OwnN w.drew base v q := h
theorem own_low {w : World} {base base' : Nat} {e : TypeId} {sz n : Nat} {v : Value} {xs : List Value} (h : w.ownsRow base e sz v n xs) (hle : base' ≤ base) : w.ownsRow base' e sz v n xs := by
  refine ⟨h.1, ?_⟩
  rcases h.2 with h' | ⟨g, cap, cur, h1, h2, h3⟩
  · exact .inl h'
  · exact .inr ⟨g, cap, cur, h1, by omega, h3⟩
/-- A part of a row of bits that is read. -/
theorem rdN_drop {w : World} {A : Option Addr} {n c t : Nat} {q : List Nat} (h : RdN w (.slice A n c) q) (ht : t ≤ q.length) : RdN w (.slice (if c = t then A else A.map (·.add t)) (n - t) (c - t)) (q.drop t) := by
  obtain ⟨A', c', e, h1, h2, h3⟩ := h
  injection e with e1 e2 e3
  subst e1; subst e2; subst e3
  refine ⟨_, _, by rw [List.length_drop], by rw [List.length_drop]; omega, by rw [List.length_drop]; omega, fun h0 => ?_⟩
  rw [List.length_drop] at h0
  obtain ⟨b, o, ea, hlt, hc⟩ := h3 (by omega)
  subst ea
  rw [if_neg (by omega)]
  refine ⟨b, o + t, by simp [Addr.add], hlt, fun i hi => ?_⟩
  rw [List.length_drop] at hi
  have := hc (t + i) (by omega)
  rw [Nat.add_assoc, this]
  simp [List.getD]

set_option maxRecDepth 100000 in
set_option maxHeartbeats 2000000 in
theorem selfScramble_spec (w : World) (v : Value) (l : List Int) (s g : ByteArray) (hb : ∀ n ∈ l, -9223372036854775808 ≤ n ∧ n ≤ 9223372036854775807) (hs : s.size ≤ maxLen) (hg : g.size ≤ maxLen) (h : Rd w v l) :
    Calls Try.prog 44 #[.agg #[v, .string s], .string g] w fun e w' =>
      e = .returned (.tuple #[.string (scbV false l s.data.toList g.data.toList), .bool (scbOk l s.data.toList g.data.toList)]) ∧ Below w.heap.size w w' := by
  obtain ⟨i0, hi, hz0, hz1, hz2⟩ := info_parts Try.infoByte
  have hB : Below w.heap.size w (w.alloc (.cells #[v, .string s] 51)) := (Below.refl _ _).alloc (Nat.le_refl _) _
  have hbk : Bk (w.alloc (.cells #[v, .string s] 51)) w.heap.size (scV v s) := Bk.new w (scV v s) 51 _ rfl
  have HI := Lib.hid (l06Is_any _ w.heap.size v s l hb hs hbk (h.keep hB))
  have HIB := Lib.hid (fun W => l01Bits_any g W hg)
  have HB := Lib.hid hB
  have HBK := Lib.hid hbk
  have HRD := Lib.hid (h.keep hB)
  have hE : scbOk l s.data.toList g.data.toList = (scOk l s.data.toList && isB g.data.toList) := rfl
  obtain ⟨A1, c1, rfl⟩ := rd_shp h
  obtain ⟨n1, hn1⟩ : ∃ n1, n1 = l.length := ⟨_, rfl⟩
  rw [← hn1] at HBK HB HRD HI ⊢
  clear h hB hbk hn1
  cases hok : scOk l s.data.toList
  · rw [hok, Bool.false_and] at hE
    rw [scbV_no hE, hE]
    rw [hok] at HI
    clear hE hok HIB hg hb hs
    go_enter Try.func44, Try.ntmps44
    go_wp2_with fail
    refine HI.out.mono ?_; rintro e w1 ⟨rfl, q, rfl⟩
    go_wp2_with fail
    go_ret2
    exact ⟨rfl, below_drewN HB.out q⟩
  · rw [hok, Bool.true_and] at hE
    rw [hok] at HI
    obtain ⟨hp1, hp2, hp3⟩ := scOk_parts hok
    obtain ⟨hp4, hp5⟩ := isB_r hp2
    have hwid : wid l ≤ ((stQ s.data.toList).length : Int) := by rw [stQ_len]; omega
    have hQ := stQ_bits hp5
    have hsz : (stQ s.data.toList).length = s.size := by rw [stQ_len]; simp
    have hpw := tpOk_wid hp1
    have hs16 : s.size ≤ 16 := by
      have : (s.data.toList.length : Int) = s.size := by simp
      omega
    cases hok2 : isB g.data.toList
    · rw [hok2] at hE HIB
      rw [scbV_no hE, hE]
      clear hE hok hok2 hp1 hp2 hp3 hp4 hp5 hg hb hs hwid hQ hsz hpw
      go_enter Try.func44, Try.ntmps44
      go_wp2_with fail
      refine HI.out.mono ?_; rintro e w1 ⟨rfl, q, rfl⟩
      go_wp2_with fail
      refine (HIB.out _).mono ?_; rintro e w2 ⟨rfl, rfl⟩
      go_wp2_with fail
      go_ret2
      exact ⟨rfl, below_drewN HB.out q⟩
    · rw [hok2] at hE HIB
      rw [scbV_yes hE, hE]
      obtain ⟨hp6, hp7⟩ := isB_r hok2
      have hgs : g.size ≤ 400 := by simpa using hp6
      have HBF := Lib.hid (fun W => l06Before_any W s (by omega) hp5)
      have HIN := Lib.hid (fun k hk => inR_at 48 49 g k hk hp7)
      have HOK := Lib.hid (fun k => scF_ok false l (stQ s.data.toList) hQ (gb (g.data.toList.take k)) (gb_bits (inR_take 48 49 g k hp7)))
      have HST := Lib.hid (fun k hk => scF_take false l (stQ s.data.toList) g k hk)
      have HMD := Lib.hid (scF_made l (stQ s.data.toList) (gb g.data.toList))
      have HALL := Lib.hid (fun k hk => take_all g k hk)
      have HSU := Lib.hid (fun W v u (q : List Nat) hq hw h h2 => l06Sum_any W v u l q hp1 hq hw h h2)
      have HSL := Lib.hid (fun (q : List Nat) (hq : bitsN q) => sm_le hq l)
      have HWI := Lib.hid hwid
      have HTX := Lib.hid (fun W v (M : List Nat) hM hl h => l06Text_any W v M hM hl h)
      have HL : Hid (scbL false l s.data.toList g.data.toList = tx (scF false l (stQ s.data.toList) (gb g.data.toList)).2) := rfl
      have HSZ := Lib.hid hsz
      generalize scbL false l s.data.toList g.data.toList = LL at *
      clear hE hok hok2 hp1 hp2 hp3 hp4 hp5 hp6 hp7 hg hwid hQ hpw hb hs hsz
      generalize stQ s.data.toList = Q at *
      go_enter Try.func44, Try.ntmps44
      go_wp2_with fail
      refine HI.out.mono ?_; rintro e w1 ⟨rfl, nq, rfl⟩
      go_wp2_with fail
      refine (HIB.out _).mono ?_; rintro e w2 ⟨rfl, rfl⟩
      have HB1 := Lib.hid (below_drewN HB.out nq)
      have HK1 := Lib.hid (HBK.out.drewN nq)
      have HR1 := Lib.hid (HRD.out.drewN nq)
      clear HB HBK HRD HI HIB
      generalize (w.alloc (.cells #[.slice A1 n1 c1, .string s] 51)).drewN nq = W1 at *
      obtain ⟨q0, q1⟩ := sc_all HK1.out
      go_wp2_with fail
      refine (HBF.out _).mono ?_; rintro e w3 ⟨v3, rfl, ho3, hb3⟩
      clear q0 q1
      have HO3 := Lib.hid ho3
      have HB3 := Lib.hid hb3
      have HLU : Hid (w.heap.size < W1.heap.size) := HK1.out.2.2
      clear ho3 hb3
      go_wp2_with fail
      go_loopw [6, 7] (fun u i wr => ∃ (k : Nat) (q M : List Nat), k ≤ g.size ∧ i = .int .i64 k ∧ scF false l Q (gb (g.data.toList.take k)) = (q, M) ∧ OwnN wr W1.heap.size u q ∧ Below W1.heap.size W1 wr) (fun _ i _ => g.size - (intOf i).toNat)
      case atStart => exact ⟨0, Q, [], Nat.zero_le _, rfl, rfl, HO3.out, HB3.out⟩
      case round =>
        obtain ⟨k, q, M, hk, rfl, hst, hown, hbw⟩ := hrel
        have hok := HOK.out k
        rw [hst] at hok
        obtain ⟨o1, o2, o3, o4⟩ := hok
        simp only at o1 o2 o3 o4
        rw [gb_len] at o3 o4
        have HM := Lib.hid hst
        have hlen : q.length ≤ 416 := by rw [o3, List.length_take, HSZ.out]; simp; omega
        have HO1 := Lib.hid o1
        have HO2 := Lib.hid o2
        have HO3L := Lib.hid o3
        have HO4L := Lib.hid o4
        have HWL : Hid (wid l ≤ (q.length : Int)) := by show _ ≤ _; have := HWI.out; omega
        have hz := HSL.out q o1
        clear hst o1 o2 o3 o4
        by_cases hlt : k < g.size
        · have hST := HST.out k hlt
          rw [HM.out] at hST
          have hIN := HIN.out k hlt
          have hk0 : (0 : Int) ≤ (k : Int) := by omega
          have hk1 : (k : Int) < (g.size : Int) := by omega
          obtain ⟨y, hy⟩ : ∃ y, g[k].toNat = y := ⟨_, rfl⟩
          rw [hy] at hST hIN
          have HY2 := Lib.hid hy
          obtain ⟨x, rfl⟩ : ∃ x, y = x + 48 := ⟨y - 48, by omega⟩
          have hx : x ≤ 1 := by omega
          rw [show x + 48 - 48 = x from by omega] at hST
          have HT := Lib.hid hST
          have HCV : Hid ((((x + 48 : Nat) : Int) - 48) % 256 = (x : Int)) := by show _ = _; omega
          obtain ⟨z, hz2⟩ : ∃ z, sm l q = z := ⟨_, rfl⟩
          have HZ := Lib.hid hz2
          rw [hz2] at hz
          have HXO := Lib.hid (u8_xor hx hz)
          obtain ⟨m, hm⟩ : ∃ m, x ^^^ z = m := ⟨_, rfl⟩
          have HMM := Lib.hid hm
          rw [hm] at HXO
          have hbd : Below W1.heap.size W1 wr.drew := hbw.drew
          have hod : OwnN wr.drew W1.heap.size u6 q := hown
          have hkd := HK1.out.keep hbd
          have hrd := HR1.out.keep hbd
          clear hST hIN hy hz2 hm hown
          obtain ⟨q0, q1⟩ := sc_all hkd
          have HC := Lib.hid (HSU.out wr.drew _ _ q HO1.out HWL.out hrd hod.rdn)
          rw [HZ.out] at HC
          have HBD := Lib.hid hbd
          have HOD := Lib.hid hod
          clear hkd hrd hbd hod hbw
          have HXC := Lib.hid (show (m : Int) = (m : Int) from rfl)
          have hcv := HCV.out
          have hy2 := HY2.out
          have hxo := HXO.out
          have hwx : IntKind.u8.wrap (x : Int) = (x : Int) := by simp [IntKind.wrap, IntKind.signed, IntKind.bits]; omega
          go_wp2_with fail
          go_region_law ((first
            | (go_simp; go_at_call 93; refine (HC.out).mono ?_; rintro e w' ⟨rfl, rfl⟩)
            | (refine step_append_lies _ rfl _ _ 42 (by rfl) W1.heap.size 5 i0 (.int .u8 0) 1 1 Try.underlying42 hi hz0 hz1 hz2 rfl (by decide) _ q.length _ (by rfl) (HOD.out.alloc _) ⟨wr.heap.size, 0, none⟩ 1 1 [.int .u8 (m : Int)] (by rfl) rfl (by exact c1_one _ _ _) (by intro u hu; simp at hu; subst hu; rfl) (by decide) (by unfold maxLen; omega) (by omega) (by have := HBD.out.size; simp at this ⊢; omega) (wr.heap.size + 1) (by simp) ?_; intro g9 cap w9 hown9 hgrow hat hlt9)))
          all_goals
            have hb9 := below_app (w1 := w9) HBD.out HBD.out.size HOD.out hgrow
            have ho9 : OwnN w9 W1.heap.size (.slice (some ⟨g9, 0, none⟩) (q.length + 1) cap) (q ++ [m]) := ownN_snoc hown9
            clear hown9 hgrow hat hlt9 hcv hy2 hxo hwx
            go_wp2_with fail
            go_roundw
            case rel =>
              refine ⟨k + 1, q ++ [m], M ++ [m], by omega, by go_num, ?_, ho9, hb9⟩
              rw [HT.out]
              unfold scG
              simp only [HZ.out, HMM.out]
              rfl
            case measure => simp [intOf]; omega
        · have hst := HM.out
          rw [HALL.out k hlt] at hst
          have hmd := HMD.out
          have hll := HL.out
          rw [hst] at hmd hll
          simp only at hmd hll
          have HLL := Lib.hid hll
          have hdr : q.drop s.size = M := by rw [hmd, ← HSZ.out, List.drop_left]
          have hsl : s.size ≤ q.length := by rw [HO3L.out, HSZ.out]; omega
          obtain ⟨A9, c9, rfl⟩ : ∃ A c, u6 = .slice A q.length c := own_shape hown
          have HD9 : Hid (RdN wr (.slice (if c9 = s.size then A9 else A9.map (·.add s.size)) (q.length - s.size) (c9 - s.size)) M) := by
            show RdN _ _ _
            have := rdN_drop hown.rdn hsl
            rw [hdr] at this
            exact this
          have hcl : q.length ≤ c9 := by
            obtain ⟨A', c', e, h1, h2, h3⟩ := hown.rdn
            injection e with e1 e2 e3
            subst e3; exact h1
          have hm4 : M.length ≤ 4000 := by rw [HO4L.out, List.length_take]; omega
          have hk9 := HK1.out.keep hbw
          obtain ⟨q0, q1⟩ := sc_all hk9
          have hi0 : (0 : Int) ≤ (s.size : Int) := by omega
          have hi1 : (s.size : Int) ≤ (q.length : Int) := by omega
          have hi2 : (s.size : Int) ≤ (c9 : Int) := by omega
          have HBW := Lib.hid hbw
          clear hst hmd hll hdr hown hbw hk9
          generalize q.length = nq at *
          by_cases hce : c9 = s.size
          · rw [if_pos hce] at HD9
            go_wp2_with fail
            refine (HTX.out _ _ M HO2.out hm4 (by simpa [hce] using HD9.out)).mono ?_; rintro e w9 ⟨rfl, hb9⟩
            have B9 := Lib.hid (HB1.out.trans ((HBW.out.trans (hb9.mono HBW.out.size)).mono HB1.out.size))
            clear hb9 q0 q1
            go_wp2_with fail
            go_ret2
            exact ⟨by rw [HLL.out]; rfl, B9.out⟩
          · rw [if_neg hce] at HD9
            go_wp2_with fail
            refine (HTX.out _ _ M HO2.out hm4 (by simpa [hce] using HD9.out)).mono ?_; rintro e w9 ⟨rfl, hb9⟩
            have B9 := Lib.hid (HB1.out.trans ((HBW.out.trans (hb9.mono HBW.out.size)).mono HB1.out.size))
            clear hb9 q0 q1
            go_wp2_with fail
            go_ret2
            exact ⟨by rw [HLL.out]; rfl, B9.out⟩
end Go.Proofs.Ytjmaapbodacggaa
