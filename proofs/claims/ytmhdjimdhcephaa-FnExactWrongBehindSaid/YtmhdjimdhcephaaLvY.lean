/- The model's WrongBehind. -/
import Derived.Test.YtmhdjimdhcephaaLvX
namespace Go.Proofs.Ytmhdjimdhcephaa
open Go Go.RowKit
set_option linter.unusedVariables false

theorem dif_step (a b : ByteArray) (k : Nat) (ha : k < a.size) (hb : k < b.size) : difN a.data.toList b.data.toList (k + 1) = difN a.data.toList b.data.toList k + (if (a[k].toNat : Int) = (b[k].toNat : Int) then 0 else 1) := by
  have e1 : a.data.toList[k]? = some a[k] := by rw [List.getElem?_eq_getElem (by simpa using ha)]; rfl
  have e2 : b.data.toList[k]? = some b[k] := by rw [List.getElem?_eq_getElem (by simpa using hb)]; rfl
  rw [difN, e1, e2]
  by_cases h : a[k] = b[k]
  · rw [h]; simp
  · rw [if_neg (fun e => h (Option.some.inj e)), if_neg (fun e => h (UInt8.toNat_inj.1 (by omega)))]
set_option maxRecDepth 100000 in
set_option maxHeartbeats 4000000 in
theorem wrong_spec (kind : Int) (s : ByteArray) (place level : Int) (w : World) (hs : s.size ≤ maxLen) :
    Calls Try.prog 37 #[.int .i64 kind, .string s, .int .i64 place, .int .i64 level] w fun e w' => e = .returned (.tuple #[.int .i64 (wbV kind s.data.toList place level), .bool (wbOk kind s.data.toList place level)]) ∧ Below w.heap.size w w' := by
  have HK := Lib.hid (l10Kind_any kind w)
  have HI := Lib.hid (l01Bits_any s w hs)
  have HV := Lib.hid (fun W => rg_in level (-1) 1 W)
  cases g0 : kdB kind
  · obtain ⟨e1, e2⟩ := wb_no (kind := kind) (s := s.data.toList) (place := place) (level := level) (.inl (lo_no (.inl g0)).1)
    rw [e1, e2]
    rw [g0] at HK
    clear g0 e1 e2 HI HV
    go_enter Try.func37, Try.ntmps37
    go_wp2_with fail
    refine HK.out.mono ?_; rintro e w' ⟨rfl, rfl⟩
    go_wp2_with fail
    go_ret2
    exact ⟨rfl, Below.refl _ _⟩
  cases g1 : isB s.data.toList
  · obtain ⟨e1, e2⟩ := wb_no (kind := kind) (s := s.data.toList) (place := place) (level := level) (.inl (lo_no (.inr g1)).1)
    rw [e1, e2]
    rw [g0] at HK
    rw [g1] at HI
    clear g0 g1 e1 e2 HV
    go_enter Try.func37, Try.ntmps37
    go_wp2_with fail
    refine HK.out.mono ?_; rintro e w' ⟨rfl, rfl⟩
    go_wp2_with fail
    refine HI.out.mono ?_; rintro e w' ⟨rfl, rfl⟩
    go_wp2_with fail
    go_ret2
    exact ⟨rfl, Below.refl _ _⟩
  cases g2 : rgB (-1) 1 level
  · obtain ⟨e1, e2⟩ := wb_no (kind := kind) (s := s.data.toList) (place := place) (level := level) (.inr (.inr (.inl g2)))
    rw [e1, e2]
    rw [g0] at HK
    rw [g1] at HI
    rw [g2] at HV
    clear g0 g1 g2 e1 e2
    go_enter Try.func37, Try.ntmps37
    go_wp2_with fail
    refine HK.out.mono ?_; rintro e w' ⟨rfl, rfl⟩
    go_wp2_with fail
    refine HI.out.mono ?_; rintro e w' ⟨rfl, rfl⟩
    go_wp2_with fail
    refine (HV.out _).mono ?_; rintro e w' ⟨rfl, rfl⟩
    go_wp2_with fail
    go_ret2
    exact ⟨rfl, Below.refl _ _⟩
  have g3 : loOk kind s.data.toList = true := (lo_yes g0 g1).1
  obtain ⟨κ, hκe, hκ, hn, -, -, hs4, hlo, hlen⟩ := lo_parts g3
  have HLL := Lib.hid (l10Levels_any hκ s w g1)
  have hls : s.data.toList.length = s.size := by simp
  rw [hls] at hlo hlen hs4
  rw [← hlo] at HLL
  have h8 := loV_len kind s.data.toList
  have w0 : IntKind.i64.wrap (((loV kind s.data.toList).length : Int) - 1) = ((loV kind s.data.toList).length : Int) - 1 := IntWalk.i64_in _ (by omega)
  have HP := Lib.hid (fun W => rg_in place 0 (((loV kind s.data.toList).length : Int) - 1) W)
  rw [g0] at HK
  rw [g1] at HI
  rw [g2] at HV
  cases g4 : rgB 0 (((loV kind s.data.toList).length : Int) - 1) place
  · obtain ⟨e1, e2⟩ := wb_no (kind := kind) (s := s.data.toList) (place := place) (level := level) (.inr (.inl g4))
    rw [e1, e2]
    rw [g4] at HP
    subst hκe
    clear g0 g1 g2 g3 g4 e1 e2 hκ hn hs4 hlo hlen hls
    generalize loV (κ : Int) s.data.toList = L at *
    go_enter Try.func37, Try.ntmps37
    go_wp2_with fail
    refine HK.out.mono ?_; rintro e w' ⟨rfl, rfl⟩
    go_wp2_with fail
    refine HI.out.mono ?_; rintro e w' ⟨rfl, rfl⟩
    go_wp2_with fail
    refine (HV.out _).mono ?_; rintro e w' ⟨rfl, rfl⟩
    go_wp2_with fail
    refine HLL.out.mono ?_; rintro e w1 ⟨u, rfl, ho, hb⟩
    obtain ⟨A1, c1, hv⟩ := own_shape ho
    subst hv
    have HB := Lib.hid hb
    clear ho hb
    go_wp2_with fail
    refine (HP.out _).mono ?_; rintro e w' ⟨rfl, rfl⟩
    go_wp2_with fail
    go_ret2
    exact ⟨rfl, HB.out⟩
  have hp : 0 ≤ place ∧ place ≤ ((loV kind s.data.toList).length : Int) - 1 := of_decide_eq_true g4
  have hlv : -1 ≤ level ∧ level ≤ 1 := of_decide_eq_true g2
  obtain ⟨p, rfl⟩ := Int.eq_ofNat_of_zero_le hp.1
  have hpl : p < (loV kind s.data.toList).length := by omega
  have hpn : (p : Int).toNat = p := Int.toNat_natCast p
  have hgd : (loV kind s.data.toList).getD p 0 = (loV kind s.data.toList)[p] := getD_at hpl
  have hi0 : (0 : Int) ≤ (p : Int) := by omega
  have hi1 : (p : Int) < ((loV kind s.data.toList).length : Int) := by omega
  rw [g4] at HP
  by_cases g5 : (loV kind s.data.toList)[p] = level
  · obtain ⟨e1, e2⟩ := wb_no (kind := kind) (s := s.data.toList) (place := (p : Int)) (level := level) (.inr (.inr (.inr (by rw [hpn, hgd]; exact g5))))
    rw [e1, e2]
    have heq : ((loV kind s.data.toList)[p] == level) = true := by simpa using g5
    subst hκe
    clear g0 g1 g2 g3 g4 g5 e1 e2 hκ hn hs4 hlo hlen hls hgd hp hlv
    generalize loV (κ : Int) s.data.toList = L at *
    go_enter Try.func37, Try.ntmps37
    go_wp2_with fail
    refine HK.out.mono ?_; rintro e w' ⟨rfl, rfl⟩
    go_wp2_with fail
    refine HI.out.mono ?_; rintro e w' ⟨rfl, rfl⟩
    go_wp2_with fail
    refine (HV.out _).mono ?_; rintro e w' ⟨rfl, rfl⟩
    go_wp2_with fail
    refine HLL.out.mono ?_; rintro e w1 ⟨u, rfl, ho, hb⟩
    obtain ⟨g, c1, hv, hg1, hg2, -, -⟩ := own_some ho (by omega)
    subst hv
    have hc := (World.ownsRow.cellAt (w := w1) (base := w.heap.size) ho p (by omega)).trans (intVals_at L p hpl)
    have HB := Lib.hid hb
    clear ho hb
    generalize L[p] = x at *
    generalize L.length = n at *
    go_wp2_with fail
    refine (HP.out _).mono ?_; rintro e w' ⟨rfl, rfl⟩
    go_wp2_with fail
    go_ret2
    exact ⟨rfl, HB.out⟩
  · obtain ⟨e1, e2⟩ := wb_yes (kind := kind) (s := s.data.toList) (place := (p : Int)) (level := level) g3 g4 g2 (by rw [hpn, hgd]; exact g5)
    rw [e1, e2, hpn]
    obtain ⟨r1, κ', T', r2⟩ := wb_read (p := p) g3 hlv
    obtain ⟨q1, q2, q3, q4⟩ := rd_parts r1
    have heq : ((loV kind s.data.toList)[p] == level) = false := by simpa using g5
    have HRD := Lib.hid (fun W v h => l10Read_any hκ W v ((loV kind s.data.toList).set p level) h (lvB_parts q2).1 (by rw [← hn]; exact q4))
    have hrt : rdT kind ((loV kind s.data.toList).set p level) = ⟨(rdK κ ((loV kind s.data.toList).set p level) (wdK κ) (((loV kind s.data.toList).set p level).length / wdK κ)).1.toArray⟩ := by
      unfold rdT rdV; rw [r1, hn]; rfl
    rw [← hrt] at HRD
    have hrs : s.size = (rdT kind ((loV kind s.data.toList).set p level)).size := by
      unfold rdT; rw [r2]; show _ = ((rdK κ' _ T' s.data.toList.length).1.toArray).size; rw [List.size_toArray, rdK_len]; simp
    have hxd : rdV kind ((loV kind s.data.toList).set p level) = (rdT kind ((loV kind s.data.toList).set p level)).data.toList := by unfold rdT; simp
    rw [hxd, hls]
    have HRS := Lib.hid hrs
    subst hκe
    clear g0 g1 g2 g3 g4 g5 e1 e2 hκ hn hlo hlen hls hgd hp hlv r1 r2 q1 q2 q3 q4 hrt hrs hxd
    generalize rdT (κ : Int) ((loV (κ : Int) s.data.toList).set p level) = RT at *
    generalize loV (κ : Int) s.data.toList = L at *
    go_enter Try.func37, Try.ntmps37
    go_wp2_with fail
    refine HK.out.mono ?_; rintro e w' ⟨rfl, rfl⟩
    go_wp2_with fail
    refine HI.out.mono ?_; rintro e w' ⟨rfl, rfl⟩
    go_wp2_with fail
    refine (HV.out _).mono ?_; rintro e w' ⟨rfl, rfl⟩
    go_wp2_with fail
    refine HLL.out.mono ?_; rintro e w1 ⟨u, rfl, ho, hb⟩
    obtain ⟨g, c1, hv, hg1, hg2, -, -⟩ := own_some ho (by omega)
    subst hv
    have hc := (World.ownsRow.cellAt (w := w1) (base := w.heap.size) ho p (by omega)).trans (intVals_at L p hpl)
    have hf := World.ownsRow.frozenAt (w := w1) (base := w.heap.size) ho p
    have HO := Lib.hid (own_set (p := p) ho level)
    have HB := Lib.hid (hb.setCell (p := ⟨g, p, none⟩) hg1 (.int .i64 level))
    clear ho hb
    generalize L[p] = x at *
    generalize L.length = n at *
    go_wp2_with fail
    refine (HP.out _).mono ?_; rintro e w' ⟨rfl, rfl⟩
    go_wp2_with fail
    refine (HRD.out _ _ HO.out.rd).mono ?_; rintro e w3 ⟨rfl, hb3⟩
    have HB3 := Lib.hid (HB.out.trans (hb3.mono HB.out.size))
    clear hb3 HB HO hc hf
    go_wp2_with fail
    go_loopw [12, 13] (fun m i wr => ∃ k q : Nat, k ≤ s.size ∧ i = .int .i64 k ∧ m = .int .i64 (difN s.data.toList RT.data.toList k) ∧ wr = w3.drewN q) (fun _ i _ => s.size - (intOf i).toNat)
    case atStart => exact ⟨0, 0, Nat.zero_le _, rfl, rfl, rfl⟩
    case round =>
      obtain ⟨k, q, hk, rfl, rfl, rfl⟩ := hrel
      by_cases hlt : k < s.size
      · have hk0 : (0 : Int) ≤ (k : Int) := by omega
        have hk1 : (k : Int) < (s.size : Int) := by omega
        have hk2 : (k : Int) < (RT.size : Int) := by have := HRS.out; omega
        have hk3 : k < RT.size := by omega
        have HST := Lib.hid (dif_step s RT k hlt hk3)
        have hbd := difN_bd s.data.toList RT.data.toList k
        have w9 : IntKind.i64.wrap (difN s.data.toList RT.data.toList k + 1) = difN s.data.toList RT.data.toList k + 1 := IntWalk.i64_in _ (by omega)
        by_cases he : (s[k].toNat : Int) = (RT[k].toNat : Int)
        · have hne : ((RT[k].toNat : Int) != (s[k].toNat : Int)) = false := bne_f he.symm
          have HX : Hid (difN s.data.toList RT.data.toList (k + 1) = difN s.data.toList RT.data.toList k) := by show _ = _; rw [HST.out, if_pos he]; omega
          clear he hbd
          go_wp2_with fail
          go_quiet (fail)
          go_wp2_with fail
          go_roundw
          case rel => exact ⟨k + 1, _, by omega, by go_num, by rw [HX.out], rfl⟩
          case measure => simp [intOf]; omega
        · have hne : ((RT[k].toNat : Int) != (s[k].toNat : Int)) = true := bne_t (fun e => he e.symm)
          have HX : Hid (difN s.data.toList RT.data.toList (k + 1) = difN s.data.toList RT.data.toList k + 1) := by show _ = _; rw [HST.out, if_neg he]
          clear he hbd
          go_wp2_with fail
          go_quiet (fail)
          go_wp2_with fail
          go_roundw
          case rel => exact ⟨k + 1, _, by omega, by go_num, by rw [HX.out], rfl⟩
          case measure => simp [intOf]; omega
      · obtain rfl : k = s.size := by omega
        go_wp2_with fail
        go_ret2
        exact ⟨rfl, below_dn HB3.out q⟩
end Go.Proofs.Ytmhdjimdhcephaa
