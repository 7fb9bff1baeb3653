/- The model's ErrorsBehind. -/
import Derived.Test.YtddlpbpcdjddpaaEbi
import Derived.Test.YtddlpbpcdjddpaaWst
import Derived.Deep.AppendLies
namespace Go.Proofs.Ytddlpbpcdjddpaa
open Go Go.RowKit
set_option linter.unusedVariables false

theorem stQ_zs (n : Nat) : stQ (zsT n) = List.replicate n 0 := by simp [stQ, zsT]
theorem zs_ok {l : List Int} {s : List UInt8} (h : scOk l s = true) : scOk l (zsT s.length) = true := by
  obtain ⟨a, b, c⟩ := scOk_parts h
  have hl : (zsT s.length).length = s.length := by simp [zsT]
  unfold scOk
  rw [a, zsT_isB (isB_two b).1, decide_eq_true (by rw [hl]; exact c)]; rfl
theorem eb_model {l : List Int} {s g : List UInt8} (h : scbOk l s g = true) : ⟨(scbL true l (zsT s.length) g).toArray⟩ = erV l s g := by
  rw [erV_yes h]
  unfold scbOk at h
  obtain ⟨h1, h2⟩ := Bool.and_eq_true_iff.1 h
  obtain ⟨ht, -, hl⟩ := scOk_parts h1
  unfold scbL
  rw [stQ_zs, both_ways (fun t ht' => ?_) (isB_two h2).2]
  obtain ⟨j, hj, rfl⟩ := List.getElem_of_mem ht'
  have h3 := tpR_at (tpOk_parts ht).2.2 j hj
  have h4 := inc_far (tpOk_parts ht).2.1 (l.length - 1 - j) j (by omega)
  rw [wid_at (tpOk_parts ht).1] at hl
  simp only [show j + (l.length - 1 - j) = l.length - 1 from by omega] at h4
  omega

set_option maxRecDepth 100000 in
set_option maxHeartbeats 2000000 in
theorem errors_spec (w : World) (v : Value) (l : List Int) (s g : ByteArray) (hb : ∀ n ∈ l, -9223372036854775808 ≤ n ∧ n ≤ 9223372036854775807) (hs : s.size ≤ maxLen) (hg : g.size ≤ maxLen) (h : Rd w v l) :
    Calls Try.prog 11 #[.agg #[v, .string s], .string g] w fun e w' =>
      e = .returned (.tuple #[.string (erV l s.data.toList g.data.toList), .bool (scbOk l s.data.toList g.data.toList)]) ∧ Below w.heap.size w w' := by
  obtain ⟨i0, hi, hz0, hz1, hz2⟩ := info_parts Try.infoByte
  have hB : Below w.heap.size w (w.alloc (.cells #[v, .string s] 28)) := (Below.refl _ _).alloc (Nat.le_refl _) _
  have hbk : Bk (w.alloc (.cells #[v, .string s] 28)) w.heap.size (scV v s) := Bk.new w (scV v s) 28 _ rfl
  have HI := Lib.hid (l06Is_any _ w.heap.size v s l hb hs hbk (h.keep hB))
  have HIB := Lib.hid (fun W => l01Bits_any g W hg)
  have HB := Lib.hid hB
  have HBK := Lib.hid hbk
  have HRD := Lib.hid (h.keep hB)
  have HDE := Lib.hid (fun W b0 z h1 h2 h3 h4 => l06Descramble_any W b0 v l z g h1 h2 h3 h4)
  have hE : scbOk l s.data.toList g.data.toList = (scOk l s.data.toList && isB g.data.toList) := rfl
  obtain ⟨A1, c1, rfl⟩ := rd_shp h
  obtain ⟨n1, hn1⟩ : ∃ n1, n1 = l.length := ⟨_, rfl⟩
  rw [← hn1] at HBK HB HRD HI HDE ⊢
  clear h hB hbk hn1 hb hs hg
  cases hok : scOk l s.data.toList
  · rw [hok, Bool.false_and] at hE
    rw [erV_no hE, hE]
    rw [hok] at HI
    clear hE hok HDE HIB
    go_enter Try.func11, Try.ntmps11
    go_wp2_with fail
    refine HI.out.mono ?_; rintro e w1 ⟨rfl, q, rfl⟩
    go_wp2_with fail
    go_ret2
    exact ⟨rfl, below_drewN HB.out q⟩
  · rw [hok, Bool.true_and] at hE
    rw [hok] at HI
    cases hok2 : isB g.data.toList
    · rw [hok2] at hE HIB
      rw [erV_no hE, hE]
      clear hE hok hok2 HDE
      go_enter Try.func11, Try.ntmps11
      go_wp2_with fail
      refine HI.out.mono ?_; rintro e w1 ⟨rfl, q, rfl⟩
      go_wp2_with fail
      refine (HIB.out _).mono ?_; rintro e w2 ⟨rfl, rfl⟩
      go_wp2_with fail
      go_ret2
      exact ⟨rfl, below_drewN HB.out q⟩
    · rw [hok2] at hE HIB
      have hvv := eb_model hE
      have hzo := zs_ok hok
      have hn16 : s.size ≤ 16 := by
        obtain ⟨ht, -, hl⟩ := scOk_parts hok
        have h2 : s.data.toList.length = s.size := rfl
        have := (tpOk_wid ht).2
        omega
      rw [show s.data.toList.length = s.size from rfl] at hvv hzo
      rw [← hvv, hE]
      obtain ⟨n, hn⟩ : ∃ n, n = s.size := ⟨_, rfl⟩
      rw [← hn] at hzo hn16 ⊢
      have hn' : s.size = n := hn.symm
      have HD2 := Lib.hid (fun W b0 h3 h4 => HDE.out W b0 ⟨(zsT n).toArray⟩ hzo hok2 h3 h4)
      have HTX := Lib.hid (fun W v h => l06Text_any W v (List.replicate n 0) (zsN_bits n) (by simp; omega) h)
      rw [zsT_tx] at HTX
      rw [show (⟨(zsT n).toArray⟩ : ByteArray).data.toList = zsT n from rfl] at HD2
      generalize (⟨(scbL true l (zsT n) g.data.toList).toArray⟩ : ByteArray) = LL at *
      generalize (⟨(zsT n).toArray⟩ : ByteArray) = Z at *
      clear hE hok hok2 HDE hvv hzo hn
      go_enter Try.func11, Try.ntmps11
      go_wp2_with fail
      refine HI.out.mono ?_; rintro e w1 ⟨rfl, q, rfl⟩
      go_wp2_with fail
      refine (HIB.out _).mono ?_; rintro e w2 ⟨rfl, rfl⟩
      have HB1 := Lib.hid (below_drewN HB.out q)
      have HK1 := Lib.hid (HBK.out.drewN q)
      have HR1 := Lib.hid (HRD.out.drewN q)
      clear HB HBK HRD HI
      generalize (w.alloc (.cells #[.slice A1 n1 c1, .string s] 28)).drewN q = W1 at *
      obtain ⟨qa, qb⟩ := sc_all HK1.out
      go_wp2_with (at_make; refine wpList_make_full _ rfl _ _ 41 rfl W1.heap.size 5 i0 (.int .u8 0) 1 Try.underlying41 hi hz0 hz1 _ _ _ _ n rfl rfl rfl rfl ?b2 ?b3 (Nat.le_refl _) ?_)
      case b2 => rw [hz2]; omega
      case b3 => unfold maxLen; omega
      intro w3 hown hgrow
      have hb3 : Below W1.heap.size W1 w3 := (Below.refl _ _).grown hgrow (Nat.le_refl _) (by simp)
      rw [toList_madeCells_one] at hown
      have ho3 : OwnN w3 W1.heap.size (.slice (some ⟨W1.heap.size, 0, none⟩) n n) (List.replicate n 0) := by
        unfold OwnN natVals
        rw [List.map_replicate, List.length_replicate]
        exact hown
      have HO3 := Lib.hid ho3.rdn
      have HB3 := Lib.hid hb3
      clear hown hgrow ho3 hb3 qa qb
      have K3 := HK1.out.keep HB3.out
      have k3 := Lib.hid K3
      obtain ⟨qa, qb⟩ := sc_all K3
      have BD := Lib.hid ((Below.refl w3.heap.size w3).drew)
      go_wp2_with fail
      have qe := (sc_all (K3.alloc (.cells #[.slice none 0 0, .string ⟨#[]⟩] 28)).drew).1
      go_region_law (first
          | (go_simp; go_at_call 39; refine (HTX.out _ _ (HO3.out.keep (Below.refl _ _).drew)).mono ?_; rintro e u4 ⟨rfl, hb4⟩; have K4 : Bk u4 w.heap.size (scV (.slice A1 n1 c1) s) := K3.drew.keep hb4; have qa := (sc_all K4).1; have qb := (sc_all K4).2; have qc := (sc_all (K4.alloc (.cells #[.slice none 0 0, .string ⟨#[]⟩] 28))).1; have BU := BD.out.trans (hb4.mono BD.out.size))
          | (go_simp; go_at_call 39; refine (HTX.out _ _ ((HO3.out.keep (Below.refl _ _).drew).keep ((Below.refl _ _).alloc (Nat.le_refl _) _))).mono ?_; rintro e u4 ⟨rfl, hb4⟩; have K4 : Bk u4 w.heap.size (scV (.slice A1 n1 c1) s) := (K3.drew.alloc _).keep hb4; have qa := (sc_all K4).1; have qb := (sc_all K4).2; have KX : Bk u4 w3.heap.size [.slice none 0 0, .string ⟨#[]⟩] := (Bk.new w3.drew [.slice none 0 0, .string ⟨#[]⟩] 28 _ rfl).keep hb4; have x0 := KX.c 0 _ rfl; have x1 := KX.c 1 _ rfl; have y0 := KX.f 0 (by simp); have y1 := KX.f 1 (by simp); have BU := (BD.out.alloc (Nat.le_refl _) (.cells #[.slice none 0 0, .string ⟨#[]⟩] 28)).trans (hb4.mono (Nat.le_trans (Nat.le_refl _) (by simp))))
          | fail)
      all_goals first
        | (have KN := Lib.hid (Bk.new u4 (scV (.slice A1 n1 c1) Z) 28 _ rfl)
           have BN := Lib.hid (BU.alloc BU.size (.cells #[.slice A1 n1 c1, .string Z] 28))
           have RN := Lib.hid ((HR1.out.keep HB3.out).keep BN.out)
           clear K4 qa qb qc qe
           go_wp2_with fail
           refine (HD2.out _ _ KN.out RN.out).mono ?_; rintro e w5 ⟨rfl, hb5⟩
           have B5 := Lib.hid (HB1.out.trans (((HB3.out.trans (BN.out.mono HB3.out.size)).trans (hb5.mono (Nat.le_trans HB3.out.size BN.out.size))).mono HB1.out.size))
           clear hb5
           go_wp2_with fail
           go_ret2
           exact ⟨rfl, B5.out⟩)
        | (have KN : Hid (Bk ((u4.setCell ⟨w3.heap.size, 0, none⟩ (.slice A1 n1 c1)).setCell ⟨w3.heap.size, 1, none⟩ (.string Z)) w3.heap.size (scV (.slice A1 n1 c1) Z)) := (KX.set 0 (by simp) (.slice A1 n1 c1)).set 1 (by simp) (.string Z)
           have BN := Lib.hid ((BU.setCell (p := ⟨w3.heap.size, 0, none⟩) (Nat.le_refl _) (.slice A1 n1 c1)).setCell (p := ⟨w3.heap.size, 1, none⟩) (Nat.le_refl _) (.string Z))
           have RN := Lib.hid ((HR1.out.keep HB3.out).keep BN.out)
           clear K4 qa qb qe KX x0 x1 y0 y1
           go_wp2_with fail
           refine (HD2.out _ _ KN.out RN.out).mono ?_; rintro e w5 ⟨rfl, hb5⟩
           have B5 := Lib.hid (HB1.out.trans (((HB3.out.trans (BN.out.mono HB3.out.size)).trans (hb5.mono (Nat.le_trans HB3.out.size BN.out.size))).mono HB1.out.size))
           clear hb5
           go_wp2_with fail
           go_ret2
           exact ⟨rfl, B5.out⟩)
end Go.Proofs.Ytddlpbpcdjddpaa
