/- The model's key: l06Key, KeyBits. -/
import Derived.Test.YtddlpbpcdjddpaaSbs
import Derived.Test.YtddlpbpcdjddpaaKyi
namespace Go.Proofs.Ytddlpbpcdjddpaa
open Go Go.RowKit
set_option linter.unusedVariables false
/-- A row of bits in a block from a number on, which may be written. -/
def KR (lo : Nat) (w : World) (v : Value) (M : List Nat) : Prop :=
  ∃ (A : Option Addr) (c : Nat), v = .slice A M.length c ∧ M.length ≤ c ∧ M.length ≤ maxLen ∧
    (0 < M.length → ∃ g o, A = some ⟨g, o, none⟩ ∧ lo ≤ g ∧ g < w.heap.size ∧ ∀ i, i < M.length → w.cell? ⟨g, o + i, none⟩ = some (.int .u8 (M.getD i 0 : Nat)) ∧ w.frozen? ⟨g, o + i, none⟩ = false)
theorem KR.rdn {lo : Nat} {w : World} {v : Value} {M : List Nat} (h : KR lo w v M) : RdN w v M := by
  obtain ⟨A, c, e, h1, h2, h3⟩ := h
  refine ⟨A, c, e, h1, h2, fun h0 => ?_⟩
  obtain ⟨g, o, ea, hlo, hlt, hc⟩ := h3 h0
  exact ⟨g, o, ea, hlt, fun i hi => (hc i hi).1⟩
theorem KR.keep {lo : Nat} {w w' : World} {v : Value} {M : List Nat} (h : KR lo w v M) (hb : Below w.heap.size w w') : KR lo w' v M := by
  obtain ⟨A, c, e, h1, h2, h3⟩ := h
  refine ⟨A, c, e, h1, h2, fun h0 => ?_⟩
  obtain ⟨g, o, ea, hlo, hlt, hc⟩ := h3 h0
  exact ⟨g, o, ea, hlo, Nat.lt_of_lt_of_le hlt hb.size, fun i hi => ⟨(hb.cell (p := ⟨g, o + i, none⟩) hlt).trans (hc i hi).1, (hb.frozen (p := ⟨g, o + i, none⟩) hlt).trans (hc i hi).2⟩⟩
theorem KR.drop {w : World} {lo n c t : Nat} {A : Option Addr} {q : List Nat} (h : OwnN w lo (.slice A n c) q) (ht : t ≤ q.length) : KR lo w (.slice (if c = t then A else A.map (·.add t)) (n - t) (c - t)) (q.drop t) := by
  have h0 := h
  rcases h.2 with ⟨e, hz⟩ | ⟨g, cap, cur, e, h1, hg, h2, h3, h4, h5⟩
  · injection e with e1 e2 e3
    subst e1; subst e2; subst e3
    have hq : q = [] := by
      have := h.1
      rw [natVals_length] at this
      exact List.length_eq_zero_iff.1 (by omega)
    subst hq
    simp at ht
    subst ht
    exact ⟨none, 0, rfl, Nat.le_refl _, by unfold maxLen; simp, fun h => by simp at h⟩
  · injection e with e1 e2 e3
    subst e1; subst e2; subst e3
    refine ⟨_, _, by rw [List.length_drop], by rw [List.length_drop]; omega, by rw [List.length_drop]; omega, fun hp => ?_⟩
    rw [List.length_drop] at hp
    rw [if_neg (by omega)]
    refine ⟨g, 0 + t, by simp [Addr.add]; intro h; omega, h1, ?_, fun i hi => ?_⟩
    · rcases Nat.lt_or_ge g w.heap.size with h' | h'
      · exact h'
      · rw [Array.getElem?_eq_none h'] at hg; cases hg
    · rw [List.length_drop] at hi
      constructor
      · have := World.ownsRow.cellAt (w := w) (base := lo) h (t + i) (by omega)
        rw [Nat.zero_add, this]
        simp [natVals, List.getD, List.getElem?_eq_getElem (show t + i < q.length by omega)]
      · have := World.ownsRow.frozenAt (w := w) (base := lo) h (t + i)
        rw [Nat.zero_add]; exact this

set_option maxRecDepth 100000 in
set_option maxHeartbeats 2000000 in
theorem l06Key_any (w : World) (b0 : Nat) (v : Value) (l : List Int) (s : ByteArray) (n : Nat) (hn : n ≤ 400) (hok : scOk l s.data.toList = true) (hbk : Bk w b0 (scV v s)) (h : Rd w v l) :
    Calls Try.prog 81 #[.pointer (some ⟨b0, 0, none⟩), .int .i64 n] w fun e w' => ∃ u, e = .returned u ∧ KR w.heap.size w' u (kb l (stQ s.data.toList) n) ∧ Below w.heap.size w w' := by
  obtain ⟨i0, hi, hz0, hz1, hz2⟩ := info_parts Try.infoByte
  have HBK := Lib.hid hbk
  have HRD := Lib.hid h
  obtain ⟨A1, c1, rfl⟩ := rd_shp h
  obtain ⟨n1, hn1⟩ : ∃ n1, n1 = l.length := ⟨_, rfl⟩
  rw [← hn1] at HBK HRD
  clear h hbk hn1
  obtain ⟨hp1, hp2, hp3⟩ := scOk_parts hok
  obtain ⟨hp4, hp5⟩ := isB_r hp2
  have hwid : wid l ≤ ((stQ s.data.toList).length : Int) := by rw [stQ_len]; omega
  have hQ := stQ_bits hp5
  have hsz : (stQ s.data.toList).length = s.size := by rw [stQ_len]; simp
  have hpw := tpOk_wid hp1
  have hs16 : s.size ≤ 16 := by
    have : (s.data.toList.length : Int) = s.size := by simp
    omega
  have HBF := Lib.hid (fun W => l06Before_any W s (by omega) hp5)
  have HSU := Lib.hid (fun W v u k h h2 => l06Sum_any W v u l (kq l (stQ s.data.toList) k) hp1 (kq_ok hQ k).1 (by rw [(kq_ok hQ k).2]; omega) h h2)
  have HKL := Lib.hid (fun k => (kq_ok (l := l) hQ k).2)
  have HKB : Hid (∀ k, kb l (stQ s.data.toList) k = (kq l (stQ s.data.toList) k).drop s.size) := by show ∀ _, _; intro k; unfold kb; rw [hsz]
  have HSZ := Lib.hid hsz
  clear hok hp1 hp2 hp3 hp4 hp5 hwid hQ hpw hsz
  generalize stQ s.data.toList = Q at *
  go_enter Try.func81, Try.ntmps81
  obtain ⟨q0, q1⟩ := sc_all HBK.out
  go_wp2_with fail
  refine (HBF.out _).mono ?_; rintro e w3 ⟨v3, rfl, ho3, hb3⟩
  clear q0 q1
  have HO3 := Lib.hid ho3
  have HB3 := Lib.hid hb3
  have HLU : Hid (b0 < w.heap.size) := HBK.out.2.2
  clear ho3 hb3
  go_wp2_with fail
  go_loopw [5, 6] (fun u i wr => ∃ k : Nat, k ≤ n ∧ i = .int .i64 k ∧ OwnN wr w.heap.size u (kq l Q k) ∧ Below w.heap.size w wr) (fun _ i _ => n - (intOf i).toNat)
  case atStart => exact ⟨0, Nat.zero_le _, rfl, HO3.out, HB3.out⟩
  case round =>
    obtain ⟨k, hk, rfl, hown, hbw⟩ := hrel
    have hlen : (kq l Q k).length ≤ 416 := by rw [HKL.out, HSZ.out]; omega
    have hkd := HBK.out.keep hbw
    obtain ⟨q0, q1⟩ := sc_all hkd
    have HOD := Lib.hid hown
    have HBD := Lib.hid hbw
    by_cases hlt : k < n
    · have HC := Lib.hid (HSU.out wr _ _ k (HRD.out.keep hbw) hown.rdn)
      have HKK : Hid (kq l Q (k + 1) = kq l Q k ++ [sm l (kq l Q k)]) := rfl
      clear hkd hown hbw
      generalize sm l (kq l Q k) = z at *
      go_wp2_with fail
      refine (HC.out).mono ?_; rintro e w' ⟨rfl, hw'⟩
      obtain rfl := hw'.symm
      go_wp2_with (at_builtin; refine wpList_append_own _ rfl _ _ 41 rfl w.heap.size 5 i0 (.int .u8 0) 1 1 Try.underlying41 hi hz0 hz1 hz2 rfl (by decide) _ _ _ rfl (World.ownsRow.alloc HOD.out _) ⟨wr.heap.size, 0, none⟩ 1 1 [.int .u8 (z : Int)] rfl rfl ?c1 ?c2 ?c3 ?c4 ?c5 ?_)
      case c1 => exact c1_one _ _ _
      case c2 => intro u hu; simp at hu; subst hu; rfl
      case c3 => unfold maxLen; omega
      case c4 => omega
      case c5 => have := HBD.out.size; simp; omega
      intro v1 w1 hown1 hgrow1 _
      have hb1 := below_app HBD.out HBD.out.size HOD.out hgrow1
      have ho1 : OwnN w1 w.heap.size v1 (kq l Q (k + 1)) := by rw [HKK.out]; exact ownN_snoc hown1
      clear hown1 hgrow1 q0 q1
      go_wp2_with fail
      go_roundw
      case rel => exact ⟨k + 1, by omega, by go_num, ho1, hb1⟩
      case measure => simp [intOf]; omega
    · obtain rfl : k = n := by omega
      have hsl : s.size ≤ (kq l Q k).length := by rw [HKL.out, HSZ.out]; omega
      obtain ⟨A9, c9, rfl⟩ : ∃ A c, u5 = .slice A (kq l Q k).length c := own_shape hown
      have HD9 : Hid (KR w.heap.size wr (.slice (if c9 = s.size then A9 else A9.map (·.add s.size)) ((kq l Q k).length - s.size) (c9 - s.size)) (kb l Q k)) := by
        show KR _ _ _ _
        rw [HKB.out]
        exact KR.drop hown hsl
      have hcl : (kq l Q k).length ≤ c9 := by
        obtain ⟨A', c', e, h1, h2, h3⟩ := hown.rdn
        injection e with e1 e2 e3
        subst e3; exact h1
      have hi0 : (0 : Int) ≤ (s.size : Int) := by omega
      have hi1 : (s.size : Int) ≤ ((kq l Q k).length : Int) := by omega
      have hi2 : (s.size : Int) ≤ (c9 : Int) := by omega
      clear hown hbw hkd HOD
      generalize (kq l Q k).length = nq at *
      by_cases hce : c9 = s.size
      · rw [if_pos hce] at HD9
        go_wp2_with fail
        go_ret
        exact ⟨_, rfl, by simpa [hce] using HD9.out, HBD.out⟩
      · rw [if_neg hce] at HD9
        go_wp2_with fail
        go_ret
        exact ⟨_, rfl, by simpa [hce] using HD9.out, HBD.out⟩

end Go.Proofs.Ytddlpbpcdjddpaa
