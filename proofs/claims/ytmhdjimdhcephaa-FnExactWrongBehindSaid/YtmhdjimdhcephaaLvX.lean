/- Both WrongBehind. -/
import Derived.Test.YtmhdjimdhcephaaLvW
namespace Go.Proofs.Ytmhdjimdhcephaa
open Go Go.RowKit
set_option linter.unusedVariables false

theorem own_set {W : World} {base g c p : Nat} {L : List Int} (h : Own W base (.slice (some ⟨g, 0, none⟩) L.length c) L) (x : Int) : Own (W.setCell ⟨g, p, none⟩ (.int .i64 x)) base (.slice (some ⟨g, 0, none⟩) L.length c) (L.set p x) := by
  have := (World.ownsRow.stored h p (.int .i64 x)).1
  unfold Own
  rw [List.length_set, ← set_old]
  exact this
theorem ones_all (a b : List UInt8) (k : Nat) (h : k ≤ 400) : onesA (xorB a b k) = difN a b k := by
  unfold onesA
  rw [if_pos (xorB_isB a b k h), ones_dif]
set_option maxRecDepth 100000 in
set_option maxHeartbeats 2000000 in
theorem wrong_impl (kind : Int) (s : ByteArray) (place level : Int) (w : World) (hs : s.size ≤ maxLen) :
    Calls Try.prog 38 #[.int .i64 kind, .string s, .int .i64 place, .int .i64 level] w fun e w' => e = .returned (.tuple #[.int .i64 (wbV kind s.data.toList place level), .bool (wbOk kind s.data.toList place level)]) ∧ Below w.heap.size w w' := by
  have HL := Lib.hid (levels_impl kind s w hs)
  cases g0 : loOk kind s.data.toList
  · obtain ⟨e1, e2⟩ := wb_no (kind := kind) (s := s.data.toList) (place := place) (level := level) (.inl g0)
    rw [e1, e2]
    rw [g0] at HL
    clear g0 e1 e2
    go_enter Try.func38, Try.ntmps38
    go_wp2_with fail
    refine HL.out.mono ?_; rintro e w1 ⟨u, rfl, ho, hb⟩
    obtain ⟨A1, c1, hv⟩ := own_shape ho
    subst hv
    have HB := Lib.hid hb
    clear ho hb
    go_wp2_with fail
    go_ret2
    exact ⟨rfl, HB.out⟩
  have h8 := loV_len kind s.data.toList
  have w0 : IntKind.i64.wrap (((loV kind s.data.toList).length : Int) - 1) = ((loV kind s.data.toList).length : Int) - 1 := IntWalk.i64_in _ (by omega)
  have HP := Lib.hid (fun W => rg_is place 0 (((loV kind s.data.toList).length : Int) - 1) W)
  cases g1 : rgB 0 (((loV kind s.data.toList).length : Int) - 1) place
  · obtain ⟨e1, e2⟩ := wb_no (kind := kind) (s := s.data.toList) (place := place) (level := level) (.inr (.inl g1))
    rw [e1, e2]
    rw [g0] at HL
    rw [g1] at HP
    clear g0 g1 e1 e2
    generalize loV kind s.data.toList = L at *
    go_enter Try.func38, Try.ntmps38
    go_wp2_with fail
    refine HL.out.mono ?_; rintro e w1 ⟨u, rfl, ho, hb⟩
    obtain ⟨A1, c1, hv⟩ := own_shape ho
    subst hv
    have HB := Lib.hid hb
    clear ho hb
    go_wp2_with fail
    refine (HP.out _).mono ?_; rintro e w' ⟨rfl, rfl⟩
    go_wp2_with fail
    go_ret2
    exact ⟨rfl, HB.out⟩
  have HV := Lib.hid (fun W => isLevel_any level W)
  cases g2 : rgB (-1) 1 level
  · obtain ⟨e1, e2⟩ := wb_no (kind := kind) (s := s.data.toList) (place := place) (level := level) (.inr (.inr (.inl g2)))
    rw [e1, e2]
    rw [g0] at HL
    rw [g1] at HP
    rw [g2] at HV
    clear g0 g1 g2 e1 e2
    generalize loV kind s.data.toList = L at *
    go_enter Try.func38, Try.ntmps38
    go_wp2_with fail
    refine HL.out.mono ?_; rintro e w1 ⟨u, rfl, ho, hb⟩
    obtain ⟨A1, c1, hv⟩ := own_shape ho
    subst hv
    have HB := Lib.hid hb
    clear ho hb
    go_wp2_with fail
    refine (HP.out _).mono ?_; rintro e w' ⟨rfl, rfl⟩
    go_wp2_with fail
    refine (HV.out _).mono ?_; rintro e w' ⟨rfl, rfl⟩
    go_wp2_with fail
    go_ret2
    exact ⟨rfl, HB.out⟩
  have hp : 0 ≤ place ∧ place ≤ ((loV kind s.data.toList).length : Int) - 1 := of_decide_eq_true g1
  have hlv : -1 ≤ level ∧ level ≤ 1 := of_decide_eq_true g2
  obtain ⟨p, rfl⟩ := Int.eq_ofNat_of_zero_le hp.1
  have hpl : p < (loV kind s.data.toList).length := by omega
  have hpn : (p : Int).toNat = p := Int.toNat_natCast p
  have hgd : (loV kind s.data.toList).getD p 0 = (loV kind s.data.toList)[p] := getD_at hpl
  have hi0 : (0 : Int) ≤ (p : Int) := by omega
  have hi1 : (p : Int) < ((loV kind s.data.toList).length : Int) := by omega
  have HPL := Lib.hid hpl
  by_cases g3 : (loV kind s.data.toList)[p] = level
  · obtain ⟨e1, e2⟩ := wb_no (kind := kind) (s := s.data.toList) (place := (p : Int)) (level := level) (.inr (.inr (.inr (by rw [hpn, hgd]; exact g3))))
    rw [e1, e2]
    rw [g0] at HL
    rw [g1] at HP
    rw [g2] at HV
    have heq : ((loV kind s.data.toList)[p] == level) = true := by simpa using g3
    clear g0 g1 g2 g3 e1 e2 hgd hp hlv
    generalize loV kind s.data.toList = L at *
    go_enter Try.func38, Try.ntmps38
    go_wp2_with fail
    refine HL.out.mono ?_; rintro e w1 ⟨u, rfl, ho, hb⟩
    obtain ⟨g, c1, hv, hg1, hg2, -, -⟩ := own_some ho (by omega)
    subst hv
    have hc := (World.ownsRow.cellAt (w := w1) (base := w.heap.size) ho p (by omega)).trans (intVals_at L p hpl)
    have HB := Lib.hid hb
    clear ho hb
    generalize L[p] = x at *
    generalize L.length = n at *
    go_wp2_with fail
    refine (HP.out _).mono ?_; rintro e w' ⟨rfl, rfl⟩
    go_wp2_with fail
    refine (HV.out _).mono ?_; rintro e w' ⟨rfl, rfl⟩
    go_wp2_with fail
    go_ret2
    exact ⟨rfl, HB.out⟩
  · obtain ⟨e1, e2⟩ := wb_yes (kind := kind) (s := s.data.toList) (place := (p : Int)) (level := level) g0 g1 g2 (by rw [hpn, hgd]; exact g3)
    rw [e1, e2, hpn]
    obtain ⟨r1, κ, T, r2⟩ := wb_read (p := p) g0 hlv
    obtain ⟨-, -, -, -, -, hB, hs4, -, -⟩ := lo_parts g0
    have hs4' : s.size ≤ 400 := by simpa using hs4
    rw [g0] at HL
    rw [g1] at HP
    rw [g2] at HV
    have heq : ((loV kind s.data.toList)[p] == level) = false := by simpa using g3
    have HRD := Lib.hid (fun W v h => reads_impl kind W v ((loV kind s.data.toList).set p level) h)
    rw [r1] at HRD
    have hrb : isB (rdT kind ((loV kind s.data.toList).set p level)).data.toList = true := by
      unfold rdT; rw [r2]; simpa using rdK_isB κ _ T _ hs4
    have hrs : s.size = (rdT kind ((loV kind s.data.toList).set p level)).size := by
      unfold rdT; rw [r2]; show _ = ((rdK κ _ T s.data.toList.length).1.toArray).size; rw [List.size_toArray, rdK_len]; simp
    have HXR := Lib.hid (fun W => xor_yes_impl s (rdT kind ((loV kind s.data.toList).set p level)) W hB hrb hrs)
    have hxd : (rdT kind ((loV kind s.data.toList).set p level)).data.toList = rdV kind ((loV kind s.data.toList).set p level) := by unfold rdT; simp
    rw [hxd] at HXR
    have HON := Lib.hid (fun W => ones_impl ⟨(xorB s.data.toList (rdV kind ((loV kind s.data.toList).set p level)) s.size).toArray⟩ W (by show ((xorB _ _ _).toArray).size ≤ _; rw [List.size_toArray, xorB_length]; exact hs))
    have hon1 : (⟨(xorB s.data.toList (rdV kind ((loV kind s.data.toList).set p level)) s.size).toArray⟩ : ByteArray).data.toList = xorB s.data.toList (rdV kind ((loV kind s.data.toList).set p level)) s.size := by simp
    rw [hon1, xorB_isB _ _ _ hs4', ones_all _ _ _ hs4'] at HON
    have hss : s.data.toList.length = s.size := by simp
    rw [hss]
    clear g0 g1 g2 g3 e1 e2 hgd hp hlv r1 r2 hB hs4 hs4' hrb hrs hxd hon1 hss
    generalize difN s.data.toList (rdV kind ((loV kind s.data.toList).set p level)) s.size = D at *
    generalize (xorB s.data.toList (rdV kind ((loV kind s.data.toList).set p level)) s.size).toArray = XB at *
    generalize rdT kind ((loV kind s.data.toList).set p level) = RT at *
    generalize loV kind s.data.toList = L at *
    go_enter Try.func38, Try.ntmps38
    go_wp2_with fail
    refine HL.out.mono ?_; rintro e w1 ⟨u, rfl, ho, hb⟩
    obtain ⟨g, c1, hv, hg1, hg2, -, -⟩ := own_some ho (by omega)
    subst hv
    have hc := (World.ownsRow.cellAt (w := w1) (base := w.heap.size) ho p (by omega)).trans (intVals_at L p hpl)
    have hf := World.ownsRow.frozenAt (w := w1) (base := w.heap.size) ho p
    have HO := Lib.hid (own_set (p := p) ho level)
    have HB := Lib.hid (hb.setCell (p := ⟨g, p, none⟩) hg1 (.int .i64 level))
    have HZ := Lib.hid hb.size
    clear ho hb
    generalize L[p] = x at *
    generalize L.length = n at *
    go_wp2_with fail
    refine (HP.out _).mono ?_; rintro e w' ⟨rfl, rfl⟩
    go_wp2_with fail
    refine (HV.out _).mono ?_; rintro e w' ⟨rfl, rfl⟩
    go_wp2_with fail
    refine (HRD.out _ _ HO.out.rd).mono ?_; rintro e w3 ⟨rfl, hb3⟩
    have HB3 := Lib.hid (HB.out.trans (hb3.mono HB.out.size))
    clear hb3 HB HO
    go_wp2_with fail
    refine (HXR.out _).mono ?_; rintro e w4 ⟨rfl, hb4⟩
    have HB4 := Lib.hid (HB3.out.trans (hb4.mono HB3.out.size))
    clear hb4 HB3
    go_wp2_with fail
    refine (HON.out _).mono ?_; rintro e w5 ⟨rfl, hb5⟩
    have HB5 := Lib.hid (HB4.out.trans (hb5.mono HB4.out.size))
    clear hb5 HB4
    go_wp2_with fail
    go_ret2
    exact ⟨rfl, HB5.out⟩
end Go.Proofs.Ytmhdjimdhcephaa
