/- The program's FlipLoss. -/
import Derived.Test.YtijmfienaoeboaaFli5
namespace Go.Proofs.Ytijmfienaoeboaa
open Go Go.RowKit Go.Maps
set_option linter.unusedVariables false

/-- The loss that is told, if there is one. -/
def flR (l : List ByteArray) (ss : List Int) (a : Int) : Option (Int × Int) := if cmOk l && (syOk l ss && decide (0 ≤ a ∧ a ≤ ((syC l ss).length : Int) - 1)) then lossO (pth l) (syC l ss) a.toNat else none
def fl1 (o : Option (Int × Int)) : Int := (o.getD (0, 0)).1
def fl2 (o : Option (Int × Int)) : Int := (o.getD (0, 0)).2
theorem flR_c {l : List ByteArray} {ss : List Int} {a : Int} (h : cmOk l = false) : flR l ss a = none := by unfold flR; rw [h]; rfl
theorem flR_s {l : List ByteArray} {ss : List Int} {a : Int} (h : syOk l ss = false) : flR l ss a = none := by unfold flR; rw [h]; simp
theorem flR_a {l : List ByteArray} {ss : List Int} {a : Int} (h : ¬ (0 ≤ a ∧ a ≤ ((syC l ss).length : Int) - 1)) : flR l ss a = none := by unfold flR; rw [decide_eq_false h]; simp
theorem flR_t {l : List ByteArray} {ss : List Int} {a : Int} (h1 : cmOk l = true) (h2 : syOk l ss = true) (h3 : 0 ≤ a ∧ a ≤ ((syC l ss).length : Int) - 1) : flR l ss a = lossO (pth l) (syC l ss) a.toNat := by unfold flR; rw [h1, h2, decide_eq_true h3]; rfl
theorem cm_cd {l : List ByteArray} (h : cmOk l = true) : cdOk l = true := by unfold cmOk at h; exact (Bool.and_eq_true_iff.1 h).1
theorem syC_bt {l : List ByteArray} {ss : List Int} (hc : cdOk l = true) (h : syOk l ss = true) : bt (syC l ss) := by
  intro c hcm
  unfold syC at hcm
  rw [List.mem_flatMap] at hcm
  obtain ⟨n, hn, hcw⟩ := hcm
  obtain ⟨k, hk, e, ew⟩ := syW_at ((syOk_parts h).1 n hn)
  rw [ew] at hcw
  exact pth_bits hc _ (pth_in (List.getElem_mem hk)) c hcw
theorem root_iff {ps ws : List Bs} (T : Trie ps ws) {j : Nat} {r : Bs} (h : ps[j]? = some r) : j = 0 ↔ r = [] := by
  obtain ⟨hj, he⟩ := List.getElem?_eq_some_iff.1 h
  obtain ⟨h0, h0e⟩ := List.getElem?_eq_some_iff.1 T.root
  constructor
  · intro e; subst e; rw [← he, h0e]
  · intro e; subst e; exact nd_inj T.nd hj h0 (by rw [he, h0e])
theorem ret_loss {o o' : Option (Int × Int)} (h : o = o') : Ending.returned (.tuple #[.int .i64 (fl1 o), .int .i64 (fl2 o), .bool o.isSome]) = .returned (.tuple #[.int .i64 (fl1 o'), .int .i64 (fl2 o'), .bool o'.isSome]) := by rw [h]
/-- What the loop over the bits holds. -/
structure FL (ws : List Bs) (S : Bs) (a : Nat) (ps : List Bs) (k j1 j2 : Nat) (n : Int) : Prop where
  kl : k ≤ S.length
  p1 : ps[j1]? = some (stt ws (S.take k))
  p2 : ps[j2]? = some (stt ws ((chg S a).take k))
  n0 : 0 ≤ n
  nk : n ≤ k
  loss : flF (endB ws S) (endB ws (chg S a)) a (S.length - k) k n = lossO ws S a

set_option maxHeartbeats 4000000 in
set_option maxRecDepth 100000 in
theorem flip_impl (w : World) (v u : Value) (l : List ByteArray) (ss : List Int) (a : Int) (h : RdS w v l) (hu : Rd w u ss) (hm : ∀ s ∈ l, s.size ≤ 4000000) (wa : (Lit.int .i64 a).wf = true) :
    Calls Try.prog 34 #[v, u, .int .i64 a] w fun e w' => e = .returned (.tuple #[.int .i64 (fl1 (flR l ss a)), .int .i64 (fl2 (flR l ss a)), .bool (flR l ss a).isSome]) ∧ Below w.heap.size w w' := by
  have HCM := Lib.hid (isComplete_impl w v l h hm)
  have HH := Lib.hid h
  have HU := Lib.hid hu
  cases hc : cmOk l
  · have HR := Lib.hid (flR_c (ss := ss) (a := a) hc)
    rw [hc] at HCM
    clear h hu hm hc wa
    go_enter Try.func34, Try.ntmps34
    go_wp2_with fail
    refine HCM.out.mono ?_; rintro e w1 ⟨rfl, hb1⟩
    have HB := Lib.hid hb1
    clear hb1
    go_wp2_with fail
    go_ret3
    exact ⟨by rw [HR.out] <;> rfl, HB.out⟩
  have hcd := cm_cd hc
  have HBS := Lib.hid (fun W h1 h2 => bitsOfSymbols_any W v u l ss h1 h2 hcd)
  rw [hc] at HCM
  cases hsy : syOk l ss
  · have HR := Lib.hid (flR_s (a := a) hsy)
    rw [syV_no hsy, hsy] at HBS
    clear h hu hm hc wa hcd hsy
    go_enter Try.func34, Try.ntmps34
    go_wp2_with fail
    refine HCM.out.mono ?_; rintro e w1 ⟨rfl, hb1⟩
    have HB := Lib.hid hb1
    clear hb1
    go_wp2_with fail
    refine (HBS.out _ (HH.out.keep HB.out) (HU.out.keep HB.out)).mono ?_; rintro e w2 ⟨rfl, hb2⟩
    have HB2 := Lib.hid (HB.out.trans (hb2.mono HB.out.size))
    clear hb2
    go_wp2_with fail
    go_ret3
    exact ⟨by rw [HR.out] <;> rfl, HB2.out⟩
  have h400 := (syOk_parts hsy).2
  have hbt := syC_bt hcd hsy
  rw [syV_yes hsy, hsy] at HBS
  obtain ⟨S, hS⟩ : ∃ S, S = syC l ss := ⟨_, rfl⟩
  obtain ⟨X, hX⟩ : ∃ X, X = tx S := ⟨_, rfl⟩
  rw [← hS] at h400 hbt HBS
  rw [← hX] at HBS
  have hXs : X.size = S.length := by rw [hX]; exact tx_size S
  have hX400 : X.size ≤ 400 := by omega
  by_cases ha : 0 ≤ a ∧ a ≤ (S.length : Int) - 1
  rotate_left
  · have HR : Hid (flR l ss a = none) := by show _ = _; rw [hS] at ha; exact flR_a ha
    have HA : Hid (¬ (0 ≤ a ∧ a ≤ (X.size : Int) - 1)) := by show ¬ _; rw [hXs]; exact ha
    clear h hu hm hc wa hcd hsy hS hX hXs ha h400 hbt
    go_enter Try.func34, Try.ntmps34
    go_wp2_with fail
    refine HCM.out.mono ?_; rintro e w1 ⟨rfl, hb1⟩
    have HB := Lib.hid hb1
    clear hb1
    go_wp2_with fail
    refine (HBS.out _ (HH.out.keep HB.out) (HU.out.keep HB.out)).mono ?_; rintro e w2 ⟨rfl, hb2⟩
    have HB2 := Lib.hid (HB.out.trans (hb2.mono HB.out.size))
    clear hb2
    go_wp2_with fail
    refine (btw_no _ _ _ _ HA.out).mono ?_; rintro e w' ⟨rfl, rfl⟩
    go_wp2_with fail
    go_ret3
    exact ⟨by rw [HR.out] <;> rfl, HB2.out⟩
  have HR : Hid (flR l ss a = lossO (pth l) S a.toNat) := by show _ = _; rw [hS] at ha ⊢; exact flR_t hc hsy ha
  have HC := Lib.hid (cm_cmp hc)
  have HA : Hid (0 ≤ a ∧ a ≤ (X.size : Int) - 1) := by show _ ∧ _; rw [hXs]; exact ha
  obtain ⟨a0, a1⟩ := ha
  obtain ⟨a, rfl⟩ := Int.eq_ofNat_of_zero_le a0
  rw [Int.toNat_natCast] at HR
  have HT := Lib.hid (fun W h => trieOf_yes W v l h hm hcd)
  have HXS := Lib.hid hXs
  have HX := Lib.hid hX
  have HBT := Lib.hid hbt
  have ha400 : a < 400 := by omega
  have HAS : Hid (a < S.length) := by show _ < _; omega
  clear h hu hm hc wa hcd hsy hS hX hXs h400 hbt a0 a1
  go_enter Try.func34, Try.ntmps34
  go_wp2_with fail
  refine HCM.out.mono ?_; rintro e w1 ⟨rfl, hb1⟩
  have HB := Lib.hid hb1
  clear hb1
  go_wp2_with fail
  refine (HBS.out _ (HH.out.keep HB.out) (HU.out.keep HB.out)).mono ?_; rintro e w2 ⟨rfl, hb2⟩
  have HB2 := Lib.hid (HB.out.trans (hb2.mono HB.out.size))
  clear hb2 HB
  go_wp2_with fail
  refine (btw_yes _ _ _ _ HA.out.1 HA.out.2).mono ?_; rintro e w' ⟨rfl, rfl⟩
  go_wp2_with fail
  refine (HT.out _ (HH.out.keep HB2.out)).mono ?_; rintro e w3 ⟨g, n, cap, ps, rfl, ht, hb3⟩
  have HB3 := Lib.hid (HB2.out.trans (hb3.mono HB2.out.size))
  have HV := Lib.hid ht
  clear ht hb3 HB2 HCM HBS HT
  go_wp2_with fail
  have HVI : Hid (∀ k, TrieV (w3.iter X k) w2.heap.size g n cap ps (pth l)) := by
    show ∀ k, _
    exact fun k => HV.out.keep ((Below.refl _ _).alloc (Nat.le_refl _) _)
  go_loopw [13, 14, 15] (fun rg wg ls wr => ∃ (k j1 j2 : Nat) (m : Int), wr = w3.iter X k ∧ rg = .int .i64 (j1 : Int) ∧ wg = .int .i64 (j2 : Int) ∧ ls = .int .i64 m ∧ FL (pth l) S a ps k j1 j2 m) (fun _ _ _ wr => X.size - wr.iterPos w3.heap.size)
  case atStart => exact ⟨0, 0, 0, 0, rfl, rfl, rfl, rfl, ⟨Nat.zero_le _, HV.out.tr.root, HV.out.tr.root, Int.le_refl _, by simp, rfl⟩⟩
  case round =>
    obtain ⟨k, j1, j2, m, rfl, rfl, rfl, rfl, hfl⟩ := hrel
    have HF := Lib.hid hfl
    have hkx : k ≤ X.size := by have := HXS.out; have := hfl.kl; omega
    have m0 := hfl.n0
    have m1 := hfl.nk
    clear hfl
    by_cases hp : k < X.size
    · have hks : k < S.length := by have := HXS.out; omega
      have hXk : X[k] = S[k] := by
        have := HX.out
        subst this
        rfl
      have hcc := HBT.out S[k] (List.getElem_mem hks)
      have hasc : (X[k]'hp).toNat < 128 := by rw [hXk]; rcases hcc with h | h <;> (rw [h]; decide)
      have hnx : ∀ ty, (Instr.next (.pointer (some ⟨w3.heap.size, 0, none⟩)) true ty).run Try.prog (w3.iter X k) = .ok (.tuple #[.bool true, .int .i64 k, .int .i32 (X[k].toNat)]) (w3.iter X (k + 1)) := fun ty => run_next_ascii w3 X k ty hp hasc
      obtain ⟨d, hd, hcd, hyd⟩ : ∃ d : Nat, d < 2 ∧ S[k] = (if d = 0 then 48 else 49) ∧ (X[k].toNat : Int) = 48 + (d : Int) := by
        rw [hXk]
        rcases hcc with h | h
        · exact ⟨0, by decide, h, by rw [h]; rfl⟩
        · exact ⟨1, by decide, h, by rw [h]; rfl⟩
      have hoth : oth S[k] = (if 1 - d = 0 then 48 else 49) := by
        rcases (show d = 0 ∨ d = 1 from by omega) with rfl | rfl
        · rw [hcd]; rfl
        · rw [hcd]; rfl
      have hs1 : stt (pth l) (S.take (k + 1)) = rdOn (pth l) (stt (pth l) (S.take k)) S[k] := by rw [List.take_succ_eq_append_getElem hks, stt_snoc]
      have hkt : k < (chg S a).length := by rw [chg_len S a HAS.out]; exact hks
      have hs2 : stt (pth l) ((chg S a).take (k + 1)) = rdOn (pth l) (stt (pth l) ((chg S a).take k)) (if k = a then oth S[k] else S[k]) := by
        rw [List.take_succ_eq_append_getElem hkt, stt_snoc, chg_at S a k HAS.out hks hkt]
      have hr1 := stt_rdr HC.out _ (S.take k) rfl (take_len_bt HBT.out k)
      have hr2 := stt_rdr HC.out _ ((chg S a).take k) rfl (take_len_bt (chg_bt a HBT.out) k)
      have HL : Hid (∀ j1' j2' : Nat, ps[j1']? = some (stt (pth l) (S.take (k + 1))) → ps[j2']? = some (stt (pth l) ((chg S a).take (k + 1))) →
          (k < a → FL (pth l) S a ps (k + 1) j1' j2' m) ∧ (¬ k < a → ¬ j1' = 0 → FL (pth l) S a ps (k + 1) j1' j2' m) ∧ (¬ k < a → j1' = 0 → j2' = 0 → lossO (pth l) S a = some (m + 1, (k : Int) + 1)) ∧ (¬ k < a → j1' = 0 → ¬ j2' = 0 → FL (pth l) S a ps (k + 1) j1' j2' (m + 1))) := by
        show ∀ j1' j2' : Nat, _
        intro j1' j2' q1 q2
        have F := HF.out
        have r1 := root_iff HV.out.tr q1
        have r2 := root_iff HV.out.tr q2
        have hloss := F.loss
        rw [show S.length - k = (S.length - (k + 1)) + 1 from by omega, flF] at hloss
        have e1 : endB (pth l) S k = decide (j1' = 0) := by unfold endB; exact decide_eq_decide.2 r1.symm
        have e2 : endB (pth l) (chg S a) k = decide (j2' = 0) := by unfold endB; exact decide_eq_decide.2 r2.symm
        rw [e1, e2] at hloss
        refine ⟨fun h => ?_, fun h h' => ?_, fun h h1 h2 => ?_, fun h h1 h2 => ?_⟩
        · rw [if_pos (by omega)] at hloss
          exact ⟨by omega, q1, q2, F.n0, by have := F.nk; omega, hloss⟩
        · rw [if_neg (by omega), if_neg (by simp [h'])] at hloss
          exact ⟨by omega, q1, q2, F.n0, by have := F.nk; omega, hloss⟩
        · rw [if_neg (by omega), if_pos (by simp [h1]), if_pos (by simp [h2])] at hloss
          rw [← hloss]; congr 2
        · rw [if_neg (by omega), if_pos (by simp [h1]), if_neg (by simp [h2])] at hloss
          exact ⟨by omega, q1, q2, by have := F.n0; omega, by have := F.nk; omega, hloss⟩
      have y0 : (48 : Int) ≤ (X[k].toNat : Int) := by omega
      have y1 : (X[k].toNat : Int) ≤ 49 := by omega
      have R1 : Hid (Calls Try.prog 87 #[.slice (some ⟨g, 0, none⟩) n cap, .int .i64 (j1 : Int), .int .i32 (X[k].toNat : Int)] (w3.iter X (k + 1)) (RdPost (w3.iter X (k + 1)) ps (pth l) (stt (pth l) (S.take k)) S[k])) :=
        readOn_any _ _ _ _ _ _ _ _ _ (HVI.out (k + 1)) HC.out hr1 HF.out.p1 S[k] d hd hcd _ hyd
      have R2 : Hid (k = a → Calls Try.prog 87 #[.slice (some ⟨g, 0, none⟩) n cap, .int .i64 (j2 : Int), .int .i32 (97 - (X[k].toNat : Int))] (w3.iter X (k + 1)) (RdPost (w3.iter X (k + 1)) ps (pth l) (stt (pth l) ((chg S a).take k)) (if k = a then oth S[k] else S[k]))) := by
        show _ → _
        intro e
        rw [if_pos e]
        exact readOn_any _ _ _ _ _ _ _ _ _ (HVI.out (k + 1)) HC.out hr2 HF.out.p2 (oth S[k]) (1 - d) (by omega) hoth _ (by omega)
      have R3 : Hid (¬ k = a → Calls Try.prog 87 #[.slice (some ⟨g, 0, none⟩) n cap, .int .i64 (j2 : Int), .int .i32 (X[k].toNat : Int)] (w3.iter X (k + 1)) (RdPost (w3.iter X (k + 1)) ps (pth l) (stt (pth l) ((chg S a).take k)) (if k = a then oth S[k] else S[k]))) := by
        show _ → _
        intro e
        rw [if_neg e]
        exact readOn_any _ _ _ _ _ _ _ _ _ (HVI.out (k + 1)) HC.out hr2 HF.out.p2 S[k] d hd hcd _ hyd
      have HS1 := Lib.hid hs1
      have HS2 := Lib.hid hs2
      have hk0 : (0 : Int) ≤ (k : Int) := by omega
      have HJ : Hid (∀ j : Nat, ∀ r, ps[j]? = some r → (j : Int) ≤ 193) := by
        show ∀ j : Nat, _
        intro j r hj
        have := (List.getElem?_eq_some_iff.1 hj).1
        have := HV.out.len
        have := HV.out.small
        omega
      clear hs1 hs2 hr1 hr2 hcd hoth hyd hXk hasc hcc hkt HF
      generalize (X[k].toNat : Int) = y at *
      by_cases hka : k = a
      · have s1 : ((k : Int) == (a : Int)) = true := beq_t (by omega)
        have s2 : (k == a) = true := by simpa using hka
        have hlt : ¬ k < a := by omega
        have s3 : decide ((k : Int) < (a : Int)) = false := decide_eq_false (by omega)
        have s4 : decide (k < a) = false := decide_eq_false (by omega)
        have R2' := Lib.hid (R2.out hka)
        clear hka R2 R3
        go_wp2_with fail
        refine R1.out.mono ?_; rintro e w' ⟨j1', rfl, hj1, rfl⟩
        have H1 : Hid (ps[j1']? = some (stt (pth l) (S.take (k + 1)))) := by show _ = _; rw [HS1.out]; exact hj1
        have j1b := HJ.out _ _ hj1
        clear hj1
        go_wp2_with fail
        refine R2'.out.mono ?_; rintro e w' ⟨j2', rfl, hj2, rfl⟩
        have H2 : Hid (ps[j2']? = some (stt (pth l) ((chg S a).take (k + 1)))) := by show _ = _; rw [HS2.out]; exact hj2
        have j2b := HJ.out _ _ hj2
        clear hj2 hnx
        by_cases hz1 : j1' = 0
        · have z1 : ((j1' : Int) != 0) = false := bne_f (by omega)
          by_cases hz2 : j2' = 0
          · have z2 : ((j2' : Int) == 0) = true := beq_t (by omega)
            have HZ := Lib.hid ((HL.out j1' j2' H1.out H2.out).2.2.1 hlt hz1 hz2)
            clear hlt hz1 hz2 H1 H2
            go_wp2_with fail
            go_ret3
            exact ⟨by rw [HR.out, HZ.out] <;> rfl, (HB3.out.alloc HB3.out.size _)⟩
          · have z2 : ((j2' : Int) == 0) = false := beq_f (by omega)
            have HZ := Lib.hid ((HL.out j1' j2' H1.out H2.out).2.2.2 hlt hz1 hz2)
            clear hlt hz1 hz2 H1 H2
            go_wp2_with fail
            go_roundw
            case rel => exact ⟨k + 1, j1', j2', m + 1, rfl, rfl, rfl, rfl, HZ.out⟩
            case measure => first | (simp; omega) | (simp only [World.iterPos, World.iter_heap]; omega)
        · have z1 : ((j1' : Int) != 0) = true := bne_t (by omega)
          have HZ := Lib.hid ((HL.out j1' j2' H1.out H2.out).2.1 hlt hz1)
          clear hlt hz1 H1 H2
          go_wp2_with fail
          go_roundw
          case rel => exact ⟨k + 1, j1', j2', m, rfl, rfl, rfl, rfl, HZ.out⟩
          case measure => first | (simp; omega) | (simp only [World.iterPos, World.iter_heap]; omega)
      · have s1 : ((k : Int) == (a : Int)) = false := beq_f (by omega)
        have s2 : (k == a) = false := by simpa using hka
        have R3' := Lib.hid (R3.out hka)
        by_cases hlt : k < a
        · have s3 : decide ((k : Int) < (a : Int)) = true := decide_eq_true (by omega)
          have s4 : decide (k < a) = true := decide_eq_true (by omega)
          clear hka R2 R3
          go_wp2_with fail
          refine R1.out.mono ?_; rintro e w' ⟨j1', rfl, hj1, rfl⟩
          have H1 : Hid (ps[j1']? = some (stt (pth l) (S.take (k + 1)))) := by show _ = _; rw [HS1.out]; exact hj1
          have j1b := HJ.out _ _ hj1
          clear hj1
          go_wp2_with fail
          refine R3'.out.mono ?_; rintro e w' ⟨j2', rfl, hj2, rfl⟩
          have H2 : Hid (ps[j2']? = some (stt (pth l) ((chg S a).take (k + 1)))) := by show _ = _; rw [HS2.out]; exact hj2
          have j2b := HJ.out _ _ hj2
          clear hj2 hnx
          have HZ := Lib.hid ((HL.out j1' j2' H1.out H2.out).1 hlt)
          clear hlt H1 H2
          go_wp2_with fail
          go_roundw
          case rel => exact ⟨k + 1, j1', j2', m, rfl, rfl, rfl, rfl, HZ.out⟩
          case measure => first | (simp; omega) | (simp only [World.iterPos, World.iter_heap]; omega)
        · have s3 : decide ((k : Int) < (a : Int)) = false := decide_eq_false (by omega)
          have s4 : decide (k < a) = false := decide_eq_false (by omega)
          clear hka R2 R3
          go_wp2_with fail
          refine R1.out.mono ?_; rintro e w' ⟨j1', rfl, hj1, rfl⟩
          have H1 : Hid (ps[j1']? = some (stt (pth l) (S.take (k + 1)))) := by show _ = _; rw [HS1.out]; exact hj1
          have j1b := HJ.out _ _ hj1
          clear hj1
          go_wp2_with fail
          refine R3'.out.mono ?_; rintro e w' ⟨j2', rfl, hj2, rfl⟩
          have H2 : Hid (ps[j2']? = some (stt (pth l) ((chg S a).take (k + 1)))) := by show _ = _; rw [HS2.out]; exact hj2
          have j2b := HJ.out _ _ hj2
          clear hj2 hnx
          by_cases hz1 : j1' = 0
          · have z1 : ((j1' : Int) != 0) = false := bne_f (by omega)
            by_cases hz2 : j2' = 0
            · have z2 : ((j2' : Int) == 0) = true := beq_t (by omega)
              have HZ := Lib.hid ((HL.out j1' j2' H1.out H2.out).2.2.1 hlt hz1 hz2)
              clear hlt hz1 hz2 H1 H2
              go_wp2_with fail
              go_ret3
              exact ⟨by rw [HR.out, HZ.out] <;> rfl, (HB3.out.alloc HB3.out.size _)⟩
            · have z2 : ((j2' : Int) == 0) = false := beq_f (by omega)
              have HZ := Lib.hid ((HL.out j1' j2' H1.out H2.out).2.2.2 hlt hz1 hz2)
              clear hlt hz1 hz2 H1 H2
              go_wp2_with fail
              go_roundw
              case rel => exact ⟨k + 1, j1', j2', m + 1, rfl, rfl, rfl, rfl, HZ.out⟩
              case measure => first | (simp; omega) | (simp only [World.iterPos, World.iter_heap]; omega)
          · have z1 : ((j1' : Int) != 0) = true := bne_t (by omega)
            have HZ := Lib.hid ((HL.out j1' j2' H1.out H2.out).2.1 hlt hz1)
            clear hlt hz1 H1 H2
            go_wp2_with fail
            go_roundw
            case rel => exact ⟨k + 1, j1', j2', m, rfl, rfl, rfl, rfl, HZ.out⟩
            case measure => first | (simp; omega) | (simp only [World.iterPos, World.iter_heap]; omega)
    · have hke : k = S.length := by have := HXS.out; have := HF.out.kl; omega
      have HZ : Hid (lossO (pth l) S a = none) := by
        show _ = _
        rw [← HF.out.loss, hke, Nat.sub_self]; rfl
      have hnx : ∀ ty, (Instr.next (.pointer (some ⟨w3.heap.size, 0, none⟩)) true ty).run Try.prog (w3.iter X k) = _ := fun ty => run_next_end w3 X k ty hp
      clear hke HF
      go_wp2_with fail
      go_ret3
      exact ⟨by rw [HR.out, HZ.out] <;> rfl, HB3.out.alloc HB3.out.size _⟩
end Go.Proofs.Ytijmfienaoeboaa
