/- The model's reading of levels, kind by kind. -/
import Derived.Test.YtmhdjimdhcephaaLvR
import Derived.Test.YtmhdjimdhcephaaLvE
import Derived.Test.YtmhdjimdhcephaaOwn
import Derived.Deep.AppendLies
namespace Go.Proofs.Ytmhdjimdhcephaa
open Go Go.RowKit
set_option linter.unusedVariables false

theorem blkI1 {l : List Int} {k : Nat} (h : k < l.length) : blkI l 1 k = [l[k]] := by
  unfold blkI
  rw [Nat.mul_one, List.drop_eq_getElem_cons h]
  rfl
theorem blkI2 {l : List Int} {k : Nat} (h : k * 2 + 1 < l.length) : blkI l 2 k = [l[k * 2]'(by omega), l[k * 2 + 1]] := by
  unfold blkI
  rw [List.drop_eq_getElem_cons (show k * 2 < l.length by omega), List.drop_eq_getElem_cons h]
  rfl
theorem l10Double_any (κ : Nat) (hκ : κ ≤ 5) (w : World) :
    Calls Try.prog 68 #[.int .i64 (κ : Int)] w fun e w' => e = .returned (.bool (decide (wdK κ = 2))) ∧ w = w' := by
  rcases six hκ with rfl | rfl | rfl | rfl | rfl | rfl
  all_goals
    go_enter Try.func68, Try.ntmps68
    go_wp2_with fail
    go_ret
    exact ⟨rfl, rfl⟩
theorem rdK_step1 {κ : Nat} {l : List Int} {k : Nat} (h : k < l.length) {q : Bool} (hq : oneK κ [l[k]] (rdK κ l 1 k).2.1 = q) : (rdK κ l 1 (k + 1)).1 = (rdK κ l 1 k).1 ++ [if q then 49 else 48] ∧ (rdK κ l 1 (k + 1)).2.1 = l[k] := by
  rw [rdK, blkI1 h, stepR]
  dsimp only
  rw [hq]
  exact ⟨rfl, rfl⟩
theorem rdK_step2 {κ : Nat} {l : List Int} {k : Nat} (h : k * 2 + 1 < l.length) {q : Bool} (hq : oneK κ [l[k * 2]'(by omega), l[k * 2 + 1]] (rdK κ l 2 k).2.1 = q) : (rdK κ l 2 (k + 1)).1 = (rdK κ l 2 k).1 ++ [if q then 49 else 48] ∧ (rdK κ l 2 (k + 1)).2.1 = l[k * 2 + 1] := by
  rw [rdK, blkI2 h, stepR]
  dsimp only
  rw [hq]
  exact ⟨rfl, rfl⟩

set_option maxRecDepth 100000 in
set_option maxHeartbeats 4000000 in
theorem readM_0 (w : World) (v : Value) (l : List Int) (hr : Rd w v l) (hl : l.length ≤ 800) (K : Nat) (hK : l.length = K * 1) :
    Calls Try.prog 61 #[.int .i64 0, v] w fun e w' => e = .returned (.string ⟨(rdK 0 l 1 K).1.toArray⟩) ∧ Below w.heap.size w w' := by
  obtain ⟨i0, hi, hz0, hz1, hz2⟩ := info_parts Try.infoByte
  have HBF := Lib.hid (fun W => l10Before_any 0 (by decide) W)
  have HDB : Hid (∀ W : World, Calls Try.prog 68 #[.int .i64 0] W fun e w' => e = .returned (.bool false) ∧ W = w') := fun W => l10Double_any 0 (by decide) W
  obtain ⟨A, n, c, rfl, hn, -, -, r⟩ := hr
  rw [hn] at hl hK
  have HN := Lib.hid hn
  have HR := Lib.hid r
  have HKN := Lib.hid hK
  clear hn r hK
  go_enter Try.func61, Try.ntmps61
  go_wp2_with fail
  refine (HBF.out _).mono ?_; rintro e w' ⟨rfl, rfl⟩
  go_wp2_with fail
  go_loopw [5, 6, 7] (fun v la i wr => ∃ k : Nat, k ≤ K ∧ i = .int .i64 (k : Int) ∧ wr.ownsRow w.heap.size 5 1 v k (byteVals (rdK 0 l 1 k).1) ∧ la = .int .i64 (rdK 0 l 1 k).2.1 ∧ Below w.heap.size w wr) (fun _ _ i _ => n - (intOf i).toNat)
  case atStart => exact ⟨0, Nat.zero_le _, rfl, World.ownsRow_made w #[] 0 (Nat.le_refl _) (by decide) rfl, rfl, (Below.refl _ _).alloc (Nat.le_refl _) _⟩
  case round =>
    obtain ⟨k, hk, rfl, ho, rfl, hb⟩ := hrel
    have HO := Lib.hid ho
    have HB := Lib.hid hb
    clear ho hb
    have hkn := HKN.out
    by_cases hlt : k < K
    · have hkk : k * 1 + 1 ≤ n := by
        have := Nat.mul_le_mul_right 1 (show k + 1 ≤ K by omega)
        omega
      obtain ⟨b, o, rfl, hlt0, hcc⟩ := HR.out (by omega)
      have hlen := HN.out
      have hsz := HB.out.size
      have hk0 : (0 : Int) ≤ (k : Int) := by omega
      have hk1 : (k : Int) < (n : Int) := by omega
      have hd1 := (HB.out.cell (p := ⟨b, o + k, none⟩) hlt0).trans (hcc k (by omega))
      have HST := Lib.hid (fun q (hq : oneK 0 [l[k]] (rdK 0 l 1 k).2.1 = q) => rdK_step1 (κ := 0) (l := l) (k := k) (by omega) hq)
      clear hcc
      generalize l[k]'(by omega) = x at *
      generalize (rdK 0 l 1 k).2.1 = a at *
      clear hlen hkn hkk
      by_cases hc : x = 1
      · have hq : (x == 1) = true := by simpa using hc
        obtain ⟨s1, s2⟩ := HST.out true hq
        have HL : Hid ((rdK 0 l 1 (k + 1)).1 = (rdK 0 l 1 k).1 ++ [49]) := s1
        have HS := Lib.hid s2
        clear hc s1 s2 HST
        go_wp2_with fail
        refine (HDB.out _).mono ?_; rintro e w' ⟨rfl, rfl⟩
        go_wp2_with (at_builtin; refine wpList_append_lies _ rfl _ _ 45 rfl w.heap.size 5 i0 (.int .u8 0) 1 1 Try.underlying45 hi hz0 hz1 hz2 rfl (by decide) _ _ _ rfl (World.ownsRow.alloc HO.out _) ⟨wr.heap.size, 0, none⟩ 1 1 [.int .u8 49] rfl rfl (c1_one _ _ _) (by intro u hu; simp at hu; subst hu; rfl) (by decide) (by unfold maxLen; omega) (by omega) (by simp; omega) (wr.heap.size + 1) (by simp) ?_)
        intro g1 cap1 w1 hown1 hgrow1 hat1 hlt1
        have HO1 : Hid (w1.ownsRow w.heap.size 5 1 (.slice (some ⟨g1, 0, none⟩) (k + 1) cap1) (k + 1) (byteVals (rdK 0 l 1 (k + 1)).1)) := by
          show World.ownsRow _ _ _ _ _ _ _
          rw [HL.out, ← byteVals_snoc]; exact hown1
        have HB1 := Lib.hid (below_app HB.out HB.out.size HO.out hgrow1)
        clear hown1 hgrow1 hat1 hlt1
        go_wp2_with fail
        go_roundw
        case rel => exact ⟨k + 1, by omega, by go_num, HO1.out, by rw [HS.out], HB1.out⟩
        case measure => simp [intOf]; omega
      · have hq : (x == 1) = false := by simpa using hc
        obtain ⟨s1, s2⟩ := HST.out false hq
        have HL : Hid ((rdK 0 l 1 (k + 1)).1 = (rdK 0 l 1 k).1 ++ [48]) := s1
        have HS := Lib.hid s2
        clear hc s1 s2 HST
        go_wp2_with fail
        refine (HDB.out _).mono ?_; rintro e w' ⟨rfl, rfl⟩
        go_wp2_with (at_builtin; refine wpList_append_lies _ rfl _ _ 45 rfl w.heap.size 5 i0 (.int .u8 0) 1 1 Try.underlying45 hi hz0 hz1 hz2 rfl (by decide) _ _ _ rfl (World.ownsRow.alloc HO.out _) ⟨wr.heap.size, 0, none⟩ 1 1 [.int .u8 48] rfl rfl (c1_one _ _ _) (by intro u hu; simp at hu; subst hu; rfl) (by decide) (by unfold maxLen; omega) (by omega) (by simp; omega) (wr.heap.size + 1) (by simp) ?_)
        intro g1 cap1 w1 hown1 hgrow1 hat1 hlt1
        have HO1 : Hid (w1.ownsRow w.heap.size 5 1 (.slice (some ⟨g1, 0, none⟩) (k + 1) cap1) (k + 1) (byteVals (rdK 0 l 1 (k + 1)).1)) := by
          show World.ownsRow _ _ _ _ _ _ _
          rw [HL.out, ← byteVals_snoc]; exact hown1
        have HB1 := Lib.hid (below_app HB.out HB.out.size HO.out hgrow1)
        clear hown1 hgrow1 hat1 hlt1
        go_wp2_with fail
        go_roundw
        case rel => exact ⟨k + 1, by omega, by go_num, HO1.out, by rw [HS.out], HB1.out⟩
        case measure => simp [intOf]; omega
    · obtain rfl : k = K := by omega
      have hnl : ¬ (k : Int) < (n : Int) := by omega
      have hcv := conv_own HO.out
      clear hkn
      go_wp2_with fail
      go_ret
      exact ⟨rfl, HB.out⟩

set_option maxRecDepth 100000 in
set_option maxHeartbeats 4000000 in
theorem readM_1 (w : World) (v : Value) (l : List Int) (hr : Rd w v l) (hl : l.length ≤ 800) (K : Nat) (hK : l.length = K * 1) :
    Calls Try.prog 61 #[.int .i64 1, v] w fun e w' => e = .returned (.string ⟨(rdK 1 l 1 K).1.toArray⟩) ∧ Below w.heap.size w w' := by
  obtain ⟨i0, hi, hz0, hz1, hz2⟩ := info_parts Try.infoByte
  have HBF := Lib.hid (fun W => l10Before_any 1 (by decide) W)
  have HDB : Hid (∀ W : World, Calls Try.prog 68 #[.int .i64 1] W fun e w' => e = .returned (.bool false) ∧ W = w') := fun W => l10Double_any 1 (by decide) W
  obtain ⟨A, n, c, rfl, hn, -, -, r⟩ := hr
  rw [hn] at hl hK
  have HN := Lib.hid hn
  have HR := Lib.hid r
  have HKN := Lib.hid hK
  clear hn r hK
  go_enter Try.func61, Try.ntmps61
  go_wp2_with fail
  refine (HBF.out _).mono ?_; rintro e w' ⟨rfl, rfl⟩
  go_wp2_with fail
  go_loopw [5, 6, 7] (fun v la i wr => ∃ k : Nat, k ≤ K ∧ i = .int .i64 (k : Int) ∧ wr.ownsRow w.heap.size 5 1 v k (byteVals (rdK 1 l 1 k).1) ∧ la = .int .i64 (rdK 1 l 1 k).2.1 ∧ Below w.heap.size w wr) (fun _ _ i _ => n - (intOf i).toNat)
  case atStart => exact ⟨0, Nat.zero_le _, rfl, World.ownsRow_made w #[] 0 (Nat.le_refl _) (by decide) rfl, rfl, (Below.refl _ _).alloc (Nat.le_refl _) _⟩
  case round =>
    obtain ⟨k, hk, rfl, ho, rfl, hb⟩ := hrel
    have HO := Lib.hid ho
    have HB := Lib.hid hb
    clear ho hb
    have hkn := HKN.out
    by_cases hlt : k < K
    · have hkk : k * 1 + 1 ≤ n := by
        have := Nat.mul_le_mul_right 1 (show k + 1 ≤ K by omega)
        omega
      obtain ⟨b, o, rfl, hlt0, hcc⟩ := HR.out (by omega)
      have hlen := HN.out
      have hsz := HB.out.size
      have hk0 : (0 : Int) ≤ (k : Int) := by omega
      have hk1 : (k : Int) < (n : Int) := by omega
      have hd1 := (HB.out.cell (p := ⟨b, o + k, none⟩) hlt0).trans (hcc k (by omega))
      have HST := Lib.hid (fun q (hq : oneK 1 [l[k]] (rdK 1 l 1 k).2.1 = q) => rdK_step1 (κ := 1) (l := l) (k := k) (by omega) hq)
      clear hcc
      generalize l[k]'(by omega) = x at *
      generalize (rdK 1 l 1 k).2.1 = a at *
      clear hlen hkn hkk
      by_cases hc : x ≠ a
      · have hq : (x != a) = true := bne_t hc
        obtain ⟨s1, s2⟩ := HST.out true hq
        have HL : Hid ((rdK 1 l 1 (k + 1)).1 = (rdK 1 l 1 k).1 ++ [49]) := s1
        have HS := Lib.hid s2
        clear hc s1 s2 HST
        go_wp2_with fail
        refine (HDB.out _).mono ?_; rintro e w' ⟨rfl, rfl⟩
        go_wp2_with (at_builtin; refine wpList_append_lies _ rfl _ _ 45 rfl w.heap.size 5 i0 (.int .u8 0) 1 1 Try.underlying45 hi hz0 hz1 hz2 rfl (by decide) _ _ _ rfl (World.ownsRow.alloc HO.out _) ⟨wr.heap.size, 0, none⟩ 1 1 [.int .u8 49] rfl rfl (c1_one _ _ _) (by intro u hu; simp at hu; subst hu; rfl) (by decide) (by unfold maxLen; omega) (by omega) (by simp; omega) (wr.heap.size + 1) (by simp) ?_)
        intro g1 cap1 w1 hown1 hgrow1 hat1 hlt1
        have HO1 : Hid (w1.ownsRow w.heap.size 5 1 (.slice (some ⟨g1, 0, none⟩) (k + 1) cap1) (k + 1) (byteVals (rdK 1 l 1 (k + 1)).1)) := by
          show World.ownsRow _ _ _ _ _ _ _
          rw [HL.out, ← byteVals_snoc]; exact hown1
        have HB1 := Lib.hid (below_app HB.out HB.out.size HO.out hgrow1)
        clear hown1 hgrow1 hat1 hlt1
        go_wp2_with fail
        go_roundw
        case rel => exact ⟨k + 1, by omega, by go_num, HO1.out, by rw [HS.out], HB1.out⟩
        case measure => simp [intOf]; omega
      · have hq : (x != a) = false := by simpa using hc
        obtain ⟨s1, s2⟩ := HST.out false hq
        have HL : Hid ((rdK 1 l 1 (k + 1)).1 = (rdK 1 l 1 k).1 ++ [48]) := s1
        have HS := Lib.hid s2
        clear hc s1 s2 HST
        go_wp2_with fail
        refine (HDB.out _).mono ?_; rintro e w' ⟨rfl, rfl⟩
        go_wp2_with (at_builtin; refine wpList_append_lies _ rfl _ _ 45 rfl w.heap.size 5 i0 (.int .u8 0) 1 1 Try.underlying45 hi hz0 hz1 hz2 rfl (by decide) _ _ _ rfl (World.ownsRow.alloc HO.out _) ⟨wr.heap.size, 0, none⟩ 1 1 [.int .u8 48] rfl rfl (c1_one _ _ _) (by intro u hu; simp at hu; subst hu; rfl) (by decide) (by unfold maxLen; omega) (by omega) (by simp; omega) (wr.heap.size + 1) (by simp) ?_)
        intro g1 cap1 w1 hown1 hgrow1 hat1 hlt1
        have HO1 : Hid (w1.ownsRow w.heap.size 5 1 (.slice (some ⟨g1, 0, none⟩) (k + 1) cap1) (k + 1) (byteVals (rdK 1 l 1 (k + 1)).1)) := by
          show World.ownsRow _ _ _ _ _ _ _
          rw [HL.out, ← byteVals_snoc]; exact hown1
        have HB1 := Lib.hid (below_app HB.out HB.out.size HO.out hgrow1)
        clear hown1 hgrow1 hat1 hlt1
        go_wp2_with fail
        go_roundw
        case rel => exact ⟨k + 1, by omega, by go_num, HO1.out, by rw [HS.out], HB1.out⟩
        case measure => simp [intOf]; omega
    · obtain rfl : k = K := by omega
      have hnl : ¬ (k : Int) < (n : Int) := by omega
      have hcv := conv_own HO.out
      clear hkn
      go_wp2_with fail
      go_ret
      exact ⟨rfl, HB.out⟩

set_option maxRecDepth 100000 in
set_option maxHeartbeats 4000000 in
theorem readM_2 (w : World) (v : Value) (l : List Int) (hr : Rd w v l) (hl : l.length ≤ 800) (K : Nat) (hK : l.length = K * 2) :
    Calls Try.prog 61 #[.int .i64 2, v] w fun e w' => e = .returned (.string ⟨(rdK 2 l 2 K).1.toArray⟩) ∧ Below w.heap.size w w' := by
  obtain ⟨i0, hi, hz0, hz1, hz2⟩ := info_parts Try.infoByte
  have HBF := Lib.hid (fun W => l10Before_any 2 (by decide) W)
  have HDB : Hid (∀ W : World, Calls Try.prog 68 #[.int .i64 2] W fun e w' => e = .returned (.bool true) ∧ W = w') := fun W => l10Double_any 2 (by decide) W
  obtain ⟨A, n, c, rfl, hn, -, -, r⟩ := hr
  rw [hn] at hl hK
  have HN := Lib.hid hn
  have HR := Lib.hid r
  have HKN := Lib.hid hK
  clear hn r hK
  go_enter Try.func61, Try.ntmps61
  go_wp2_with fail
  refine (HBF.out _).mono ?_; rintro e w' ⟨rfl, rfl⟩
  go_wp2_with fail
  go_loopw [5, 6, 7] (fun v la i wr => ∃ k : Nat, k ≤ K ∧ i = .int .i64 ((k : Int) * 2) ∧ wr.ownsRow w.heap.size 5 1 v k (byteVals (rdK 2 l 2 k).1) ∧ la = .int .i64 (rdK 2 l 2 k).2.1 ∧ Below w.heap.size w wr) (fun _ _ i _ => n - (intOf i).toNat)
  case atStart => exact ⟨0, Nat.zero_le _, rfl, World.ownsRow_made w #[] 0 (Nat.le_refl _) (by decide) rfl, rfl, (Below.refl _ _).alloc (Nat.le_refl _) _⟩
  case round =>
    obtain ⟨k, hk, rfl, ho, rfl, hb⟩ := hrel
    have HO := Lib.hid ho
    have HB := Lib.hid hb
    clear ho hb
    have hkn := HKN.out
    by_cases hlt : k < K
    · have hkk : k * 2 + 2 ≤ n := by
        have := Nat.mul_le_mul_right 2 (show k + 1 ≤ K by omega)
        omega
      obtain ⟨b, o, rfl, hlt0, hcc⟩ := HR.out (by omega)
      have hlen := HN.out
      have hsz := HB.out.size
      have hk0 : (0 : Int) ≤ (k : Int) := by omega
      have hk1 : (k : Int) < (n : Int) := by omega
      have hd1 := (HB.out.cell (p := ⟨b, o + k * 2, none⟩) hlt0).trans (hcc (k * 2) (by omega))
      have hd2 := (HB.out.cell (p := ⟨b, o + (k * 2 + 1), none⟩) hlt0).trans (hcc (k * 2 + 1) (by omega))
      have j0 : (0 : Int) ≤ (k : Int) * 2 := by omega
      have j1 : (k : Int) * 2 < (n : Int) := by omega
      have j2 : (k : Int) * 2 + 1 < (n : Int) := by omega
      have j3 : ((k : Int) * 2).toNat = k * 2 := by omega
      have j4 : ((k : Int) * 2 + 1).toNat = k * 2 + 1 := by omega
      have j5 : (0 : Int) ≤ (k : Int) * 2 + 1 := by omega
      have j6 : ((k : Int) * 2 + 1 == (n : Int)) = false := beq_f (by omega)
      have j7 : IntKind.i64.wrap ((k : Int) * 2 + 1) = (k : Int) * 2 + 1 := IntWalk.i64_in _ (by omega)
      have j8 : IntKind.i64.wrap ((k : Int) * 2 + 1 + 1) = (k : Int) * 2 + 1 + 1 := IntWalk.i64_in _ (by omega)
      have HST := Lib.hid (fun q (hq : oneK 2 [l[k * 2]'(by omega), l[k * 2 + 1]'(by omega)] (rdK 2 l 2 k).2.1 = q) => rdK_step2 (κ := 2) (l := l) (k := k) (by omega) hq)
      clear hcc
      generalize l[k * 2]'(by omega) = x at *
      generalize l[k * 2 + 1]'(by omega) = y at *
      generalize (rdK 2 l 2 k).2.1 = a at *
      clear hlen hkn hkk
      by_cases hc : x < y
      · have hq : decide (x < y) = true := decide_eq_true hc
        obtain ⟨s1, s2⟩ := HST.out true hq
        have HL : Hid ((rdK 2 l 2 (k + 1)).1 = (rdK 2 l 2 k).1 ++ [49]) := s1
        have HS := Lib.hid s2
        clear hc s1 s2 HST
        go_wp2_with fail
        refine (HDB.out _).mono ?_; rintro e w' ⟨rfl, rfl⟩
        go_wp2_with (at_builtin; refine wpList_append_lies _ rfl _ _ 45 rfl w.heap.size 5 i0 (.int .u8 0) 1 1 Try.underlying45 hi hz0 hz1 hz2 rfl (by decide) _ _ _ rfl (World.ownsRow.alloc HO.out _) ⟨wr.heap.size, 0, none⟩ 1 1 [.int .u8 49] rfl rfl (c1_one _ _ _) (by intro u hu; simp at hu; subst hu; rfl) (by decide) (by unfold maxLen; omega) (by omega) (by simp; omega) (wr.heap.size + 1) (by simp) ?_)
        intro g1 cap1 w1 hown1 hgrow1 hat1 hlt1
        have HO1 : Hid (w1.ownsRow w.heap.size 5 1 (.slice (some ⟨g1, 0, none⟩) (k + 1) cap1) (k + 1) (byteVals (rdK 2 l 2 (k + 1)).1)) := by
          show World.ownsRow _ _ _ _ _ _ _
          rw [HL.out, ← byteVals_snoc]; exact hown1
        have HB1 := Lib.hid (below_app HB.out HB.out.size HO.out hgrow1)
        clear hown1 hgrow1 hat1 hlt1
        go_wp2_with fail
        go_roundw
        case rel => exact ⟨k + 1, by omega, by go_num, HO1.out, by rw [HS.out], HB1.out⟩
        case measure => simp [intOf]; omega
      · have hq : decide (x < y) = false := decide_eq_false hc
        obtain ⟨s1, s2⟩ := HST.out false hq
        have HL : Hid ((rdK 2 l 2 (k + 1)).1 = (rdK 2 l 2 k).1 ++ [48]) := s1
        have HS := Lib.hid s2
        clear hc s1 s2 HST
        go_wp2_with fail
        refine (HDB.out _).mono ?_; rintro e w' ⟨rfl, rfl⟩
        go_wp2_with (at_builtin; refine wpList_append_lies _ rfl _ _ 45 rfl w.heap.size 5 i0 (.int .u8 0) 1 1 Try.underlying45 hi hz0 hz1 hz2 rfl (by decide) _ _ _ rfl (World.ownsRow.alloc HO.out _) ⟨wr.heap.size, 0, none⟩ 1 1 [.int .u8 48] rfl rfl (c1_one _ _ _) (by intro u hu; simp at hu; subst hu; rfl) (by decide) (by unfold maxLen; omega) (by omega) (by simp; omega) (wr.heap.size + 1) (by simp) ?_)
        intro g1 cap1 w1 hown1 hgrow1 hat1 hlt1
        have HO1 : Hid (w1.ownsRow w.heap.size 5 1 (.slice (some ⟨g1, 0, none⟩) (k + 1) cap1) (k + 1) (byteVals (rdK 2 l 2 (k + 1)).1)) := by
          show World.ownsRow _ _ _ _ _ _ _
          rw [HL.out, ← byteVals_snoc]; exact hown1
        have HB1 := Lib.hid (below_app HB.out HB.out.size HO.out hgrow1)
        clear hown1 hgrow1 hat1 hlt1
        go_wp2_with fail
        go_roundw
        case rel => exact ⟨k + 1, by omega, by go_num, HO1.out, by rw [HS.out], HB1.out⟩
        case measure => simp [intOf]; omega
    · obtain rfl : k = K := by omega
      have hnl : ¬ ((k : Int) * 2) < (n : Int) := by omega
      have hcv := conv_own HO.out
      clear hkn
      go_wp2_with fail
      go_ret
      exact ⟨rfl, HB.out⟩

set_option maxRecDepth 100000 in
set_option maxHeartbeats 4000000 in
theorem readM_3 (w : World) (v : Value) (l : List Int) (hr : Rd w v l) (hl : l.length ≤ 800) (K : Nat) (hK : l.length = K * 2) :
    Calls Try.prog 61 #[.int .i64 3, v] w fun e w' => e = .returned (.string ⟨(rdK 3 l 2 K).1.toArray⟩) ∧ Below w.heap.size w w' := by
  obtain ⟨i0, hi, hz0, hz1, hz2⟩ := info_parts Try.infoByte
  have HBF := Lib.hid (fun W => l10Before_any 3 (by decide) W)
  have HDB : Hid (∀ W : World, Calls Try.prog 68 #[.int .i64 3] W fun e w' => e = .returned (.bool true) ∧ W = w') := fun W => l10Double_any 3 (by decide) W
  obtain ⟨A, n, c, rfl, hn, -, -, r⟩ := hr
  rw [hn] at hl hK
  have HN := Lib.hid hn
  have HR := Lib.hid r
  have HKN := Lib.hid hK
  clear hn r hK
  go_enter Try.func61, Try.ntmps61
  go_wp2_with fail
  refine (HBF.out _).mono ?_; rintro e w' ⟨rfl, rfl⟩
  go_wp2_with fail
  go_loopw [5, 6, 7] (fun v la i wr => ∃ k : Nat, k ≤ K ∧ i = .int .i64 ((k : Int) * 2) ∧ wr.ownsRow w.heap.size 5 1 v k (byteVals (rdK 3 l 2 k).1) ∧ la = .int .i64 (rdK 3 l 2 k).2.1 ∧ Below w.heap.size w wr) (fun _ _ i _ => n - (intOf i).toNat)
  case atStart => exact ⟨0, Nat.zero_le _, rfl, World.ownsRow_made w #[] 0 (Nat.le_refl _) (by decide) rfl, rfl, (Below.refl _ _).alloc (Nat.le_refl _) _⟩
  case round =>
    obtain ⟨k, hk, rfl, ho, rfl, hb⟩ := hrel
    have HO := Lib.hid ho
    have HB := Lib.hid hb
    clear ho hb
    have hkn := HKN.out
    by_cases hlt : k < K
    · have hkk : k * 2 + 2 ≤ n := by
        have := Nat.mul_le_mul_right 2 (show k + 1 ≤ K by omega)
        omega
      obtain ⟨b, o, rfl, hlt0, hcc⟩ := HR.out (by omega)
      have hlen := HN.out
      have hsz := HB.out.size
      have hk0 : (0 : Int) ≤ (k : Int) := by omega
      have hk1 : (k : Int) < (n : Int) := by omega
      have hd1 := (HB.out.cell (p := ⟨b, o + k * 2, none⟩) hlt0).trans (hcc (k * 2) (by omega))
      have hd2 := (HB.out.cell (p := ⟨b, o + (k * 2 + 1), none⟩) hlt0).trans (hcc (k * 2 + 1) (by omega))
      have j0 : (0 : Int) ≤ (k : Int) * 2 := by omega
      have j1 : (k : Int) * 2 < (n : Int) := by omega
      have j2 : (k : Int) * 2 + 1 < (n : Int) := by omega
      have j3 : ((k : Int) * 2).toNat = k * 2 := by omega
      have j4 : ((k : Int) * 2 + 1).toNat = k * 2 + 1 := by omega
      have j5 : (0 : Int) ≤ (k : Int) * 2 + 1 := by omega
      have j6 : ((k : Int) * 2 + 1 == (n : Int)) = false := beq_f (by omega)
      have j7 : IntKind.i64.wrap ((k : Int) * 2 + 1) = (k : Int) * 2 + 1 := IntWalk.i64_in _ (by omega)
      have j8 : IntKind.i64.wrap ((k : Int) * 2 + 1 + 1) = (k : Int) * 2 + 1 + 1 := IntWalk.i64_in _ (by omega)
      have HST := Lib.hid (fun q (hq : oneK 3 [l[k * 2]'(by omega), l[k * 2 + 1]'(by omega)] (rdK 3 l 2 k).2.1 = q) => rdK_step2 (κ := 3) (l := l) (k := k) (by omega) hq)
      clear hcc
      generalize l[k * 2]'(by omega) = x at *
      generalize l[k * 2 + 1]'(by omega) = y at *
      generalize (rdK 3 l 2 k).2.1 = a at *
      clear hlen hkn hkk
      by_cases hc : x = a
      · have hq : (x == a) = true := by simpa using hc
        obtain ⟨s1, s2⟩ := HST.out true hq
        have HL : Hid ((rdK 3 l 2 (k + 1)).1 = (rdK 3 l 2 k).1 ++ [49]) := s1
        have HS := Lib.hid s2
        clear hc s1 s2 HST
        go_wp2_with fail
        refine (HDB.out _).mono ?_; rintro e w' ⟨rfl, rfl⟩
        go_wp2_with (at_builtin; refine wpList_append_lies _ rfl _ _ 45 rfl w.heap.size 5 i0 (.int .u8 0) 1 1 Try.underlying45 hi hz0 hz1 hz2 rfl (by decide) _ _ _ rfl (World.ownsRow.alloc HO.out _) ⟨wr.heap.size, 0, none⟩ 1 1 [.int .u8 49] rfl rfl (c1_one _ _ _) (by intro u hu; simp at hu; subst hu; rfl) (by decide) (by unfold maxLen; omega) (by omega) (by simp; omega) (wr.heap.size + 1) (by simp) ?_)
        intro g1 cap1 w1 hown1 hgrow1 hat1 hlt1
        have HO1 : Hid (w1.ownsRow w.heap.size 5 1 (.slice (some ⟨g1, 0, none⟩) (k + 1) cap1) (k + 1) (byteVals (rdK 3 l 2 (k + 1)).1)) := by
          show World.ownsRow _ _ _ _ _ _ _
          rw [HL.out, ← byteVals_snoc]; exact hown1
        have HB1 := Lib.hid (below_app HB.out HB.out.size HO.out hgrow1)
        clear hown1 hgrow1 hat1 hlt1
        go_wp2_with fail
        go_roundw
        case rel => exact ⟨k + 1, by omega, by go_num, HO1.out, by rw [HS.out], HB1.out⟩
        case measure => simp [intOf]; omega
      · have hq : (x == a) = false := by simpa using hc
        obtain ⟨s1, s2⟩ := HST.out false hq
        have HL : Hid ((rdK 3 l 2 (k + 1)).1 = (rdK 3 l 2 k).1 ++ [48]) := s1
        have HS := Lib.hid s2
        clear hc s1 s2 HST
        go_wp2_with fail
        refine (HDB.out _).mono ?_; rintro e w' ⟨rfl, rfl⟩
        go_wp2_with (at_builtin; refine wpList_append_lies _ rfl _ _ 45 rfl w.heap.size 5 i0 (.int .u8 0) 1 1 Try.underlying45 hi hz0 hz1 hz2 rfl (by decide) _ _ _ rfl (World.ownsRow.alloc HO.out _) ⟨wr.heap.size, 0, none⟩ 1 1 [.int .u8 48] rfl rfl (c1_one _ _ _) (by intro u hu; simp at hu; subst hu; rfl) (by decide) (by unfold maxLen; omega) (by omega) (by simp; omega) (wr.heap.size + 1) (by simp) ?_)
        intro g1 cap1 w1 hown1 hgrow1 hat1 hlt1
        have HO1 : Hid (w1.ownsRow w.heap.size 5 1 (.slice (some ⟨g1, 0, none⟩) (k + 1) cap1) (k + 1) (byteVals (rdK 3 l 2 (k + 1)).1)) := by
          show World.ownsRow _ _ _ _ _ _ _
          rw [HL.out, ← byteVals_snoc]; exact hown1
        have HB1 := Lib.hid (below_app HB.out HB.out.size HO.out hgrow1)
        clear hown1 hgrow1 hat1 hlt1
        go_wp2_with fail
        go_roundw
        case rel => exact ⟨k + 1, by omega, by go_num, HO1.out, by rw [HS.out], HB1.out⟩
        case measure => simp [intOf]; omega
    · obtain rfl : k = K := by omega
      have hnl : ¬ ((k : Int) * 2) < (n : Int) := by omega
      have hcv := conv_own HO.out
      clear hkn
      go_wp2_with fail
      go_ret
      exact ⟨rfl, HB.out⟩

set_option maxRecDepth 100000 in
set_option maxHeartbeats 4000000 in
theorem readM_4 (w : World) (v : Value) (l : List Int) (hr : Rd w v l) (hl : l.length ≤ 800) (K : Nat) (hK : l.length = K * 1) :
    Calls Try.prog 61 #[.int .i64 4, v] w fun e w' => e = .returned (.string ⟨(rdK 4 l 1 K).1.toArray⟩) ∧ Below w.heap.size w w' := by
  obtain ⟨i0, hi, hz0, hz1, hz2⟩ := info_parts Try.infoByte
  have HBF := Lib.hid (fun W => l10Before_any 4 (by decide) W)
  have HDB : Hid (∀ W : World, Calls Try.prog 68 #[.int .i64 4] W fun e w' => e = .returned (.bool false) ∧ W = w') := fun W => l10Double_any 4 (by decide) W
  obtain ⟨A, n, c, rfl, hn, -, -, r⟩ := hr
  rw [hn] at hl hK
  have HN := Lib.hid hn
  have HR := Lib.hid r
  have HKN := Lib.hid hK
  clear hn r hK
  go_enter Try.func61, Try.ntmps61
  go_wp2_with fail
  refine (HBF.out _).mono ?_; rintro e w' ⟨rfl, rfl⟩
  go_wp2_with fail
  go_loopw [5, 6, 7] (fun v la i wr => ∃ k : Nat, k ≤ K ∧ i = .int .i64 (k : Int) ∧ wr.ownsRow w.heap.size 5 1 v k (byteVals (rdK 4 l 1 k).1) ∧ la = .int .i64 (rdK 4 l 1 k).2.1 ∧ Below w.heap.size w wr) (fun _ _ i _ => n - (intOf i).toNat)
  case atStart => exact ⟨0, Nat.zero_le _, rfl, World.ownsRow_made w #[] 0 (Nat.le_refl _) (by decide) rfl, rfl, (Below.refl _ _).alloc (Nat.le_refl _) _⟩
  case round =>
    obtain ⟨k, hk, rfl, ho, rfl, hb⟩ := hrel
    have HO := Lib.hid ho
    have HB := Lib.hid hb
    clear ho hb
    have hkn := HKN.out
    by_cases hlt : k < K
    · have hkk : k * 1 + 1 ≤ n := by
        have := Nat.mul_le_mul_right 1 (show k + 1 ≤ K by omega)
        omega
      obtain ⟨b, o, rfl, hlt0, hcc⟩ := HR.out (by omega)
      have hlen := HN.out
      have hsz := HB.out.size
      have hk0 : (0 : Int) ≤ (k : Int) := by omega
      have hk1 : (k : Int) < (n : Int) := by omega
      have hd1 := (HB.out.cell (p := ⟨b, o + k, none⟩) hlt0).trans (hcc k (by omega))
      have HST := Lib.hid (fun q (hq : oneK 4 [l[k]] (rdK 4 l 1 k).2.1 = q) => rdK_step1 (κ := 4) (l := l) (k := k) (by omega) hq)
      clear hcc
      generalize l[k]'(by omega) = x at *
      generalize (rdK 4 l 1 k).2.1 = a at *
      clear hlen hkn hkk
      by_cases hc : x ≠ 0
      · have hq : (x != 0) = true := bne_t hc
        obtain ⟨s1, s2⟩ := HST.out true hq
        have HL : Hid ((rdK 4 l 1 (k + 1)).1 = (rdK 4 l 1 k).1 ++ [49]) := s1
        have HS := Lib.hid s2
        clear hc s1 s2 HST
        go_wp2_with fail
        refine (HDB.out _).mono ?_; rintro e w' ⟨rfl, rfl⟩
        go_wp2_with (at_builtin; refine wpList_append_lies _ rfl _ _ 45 rfl w.heap.size 5 i0 (.int .u8 0) 1 1 Try.underlying45 hi hz0 hz1 hz2 rfl (by decide) _ _ _ rfl (World.ownsRow.alloc HO.out _) ⟨wr.heap.size, 0, none⟩ 1 1 [.int .u8 49] rfl rfl (c1_one _ _ _) (by intro u hu; simp at hu; subst hu; rfl) (by decide) (by unfold maxLen; omega) (by omega) (by simp; omega) (wr.heap.size + 1) (by simp) ?_)
        intro g1 cap1 w1 hown1 hgrow1 hat1 hlt1
        have HO1 : Hid (w1.ownsRow w.heap.size 5 1 (.slice (some ⟨g1, 0, none⟩) (k + 1) cap1) (k + 1) (byteVals (rdK 4 l 1 (k + 1)).1)) := by
          show World.ownsRow _ _ _ _ _ _ _
          rw [HL.out, ← byteVals_snoc]; exact hown1
        have HB1 := Lib.hid (below_app HB.out HB.out.size HO.out hgrow1)
        clear hown1 hgrow1 hat1 hlt1
        go_wp2_with fail
        go_roundw
        case rel => exact ⟨k + 1, by omega, by go_num, HO1.out, by rw [HS.out], HB1.out⟩
        case measure => simp [intOf]; omega
      · have hq : (x != 0) = false := by simpa using hc
        obtain ⟨s1, s2⟩ := HST.out false hq
        have HL : Hid ((rdK 4 l 1 (k + 1)).1 = (rdK 4 l 1 k).1 ++ [48]) := s1
        have HS := Lib.hid s2
        clear hc s1 s2 HST
        go_wp2_with fail
        refine (HDB.out _).mono ?_; rintro e w' ⟨rfl, rfl⟩
        go_wp2_with (at_builtin; refine wpList_append_lies _ rfl _ _ 45 rfl w.heap.size 5 i0 (.int .u8 0) 1 1 Try.underlying45 hi hz0 hz1 hz2 rfl (by decide) _ _ _ rfl (World.ownsRow.alloc HO.out _) ⟨wr.heap.size, 0, none⟩ 1 1 [.int .u8 48] rfl rfl (c1_one _ _ _) (by intro u hu; simp at hu; subst hu; rfl) (by decide) (by unfold maxLen; omega) (by omega) (by simp; omega) (wr.heap.size + 1) (by simp) ?_)
        intro g1 cap1 w1 hown1 hgrow1 hat1 hlt1
        have HO1 : Hid (w1.ownsRow w.heap.size 5 1 (.slice (some ⟨g1, 0, none⟩) (k + 1) cap1) (k + 1) (byteVals (rdK 4 l 1 (k + 1)).1)) := by
          show World.ownsRow _ _ _ _ _ _ _
          rw [HL.out, ← byteVals_snoc]; exact hown1
        have HB1 := Lib.hid (below_app HB.out HB.out.size HO.out hgrow1)
        clear hown1 hgrow1 hat1 hlt1
        go_wp2_with fail
        go_roundw
        case rel => exact ⟨k + 1, by omega, by go_num, HO1.out, by rw [HS.out], HB1.out⟩
        case measure => simp [intOf]; omega
    · obtain rfl : k = K := by omega
      have hnl : ¬ (k : Int) < (n : Int) := by omega
      have hcv := conv_own HO.out
      clear hkn
      go_wp2_with fail
      go_ret
      exact ⟨rfl, HB.out⟩

set_option maxRecDepth 100000 in
set_option maxHeartbeats 4000000 in
theorem readM_5 (w : World) (v : Value) (l : List Int) (hr : Rd w v l) (hl : l.length ≤ 800) (K : Nat) (hK : l.length = K * 1) :
    Calls Try.prog 61 #[.int .i64 5, v] w fun e w' => e = .returned (.string ⟨(rdK 5 l 1 K).1.toArray⟩) ∧ Below w.heap.size w w' := by
  obtain ⟨i0, hi, hz0, hz1, hz2⟩ := info_parts Try.infoByte
  have HBF := Lib.hid (fun W => l10Before_any 5 (by decide) W)
  have HDB : Hid (∀ W : World, Calls Try.prog 68 #[.int .i64 5] W fun e w' => e = .returned (.bool false) ∧ W = w') := fun W => l10Double_any 5 (by decide) W
  obtain ⟨A, n, c, rfl, hn, -, -, r⟩ := hr
  rw [hn] at hl hK
  have HN := Lib.hid hn
  have HR := Lib.hid r
  have HKN := Lib.hid hK
  clear hn r hK
  go_enter Try.func61, Try.ntmps61
  go_wp2_with fail
  refine (HBF.out _).mono ?_; rintro e w' ⟨rfl, rfl⟩
  go_wp2_with fail
  go_loopw [5, 6, 7] (fun v la i wr => ∃ k : Nat, k ≤ K ∧ i = .int .i64 (k : Int) ∧ wr.ownsRow w.heap.size 5 1 v k (byteVals (rdK 5 l 1 k).1) ∧ la = .int .i64 (rdK 5 l 1 k).2.1 ∧ Below w.heap.size w wr) (fun _ _ i _ => n - (intOf i).toNat)
  case atStart => exact ⟨0, Nat.zero_le _, rfl, World.ownsRow_made w #[] 0 (Nat.le_refl _) (by decide) rfl, rfl, (Below.refl _ _).alloc (Nat.le_refl _) _⟩
  case round =>
    obtain ⟨k, hk, rfl, ho, rfl, hb⟩ := hrel
    have HO := Lib.hid ho
    have HB := Lib.hid hb
    clear ho hb
    have hkn := HKN.out
    by_cases hlt : k < K
    · have hkk : k * 1 + 1 ≤ n := by
        have := Nat.mul_le_mul_right 1 (show k + 1 ≤ K by omega)
        omega
      obtain ⟨b, o, rfl, hlt0, hcc⟩ := HR.out (by omega)
      have hlen := HN.out
      have hsz := HB.out.size
      have hk0 : (0 : Int) ≤ (k : Int) := by omega
      have hk1 : (k : Int) < (n : Int) := by omega
      have hd1 := (HB.out.cell (p := ⟨b, o + k, none⟩) hlt0).trans (hcc k (by omega))
      have HST := Lib.hid (fun q (hq : oneK 5 [l[k]] (rdK 5 l 1 k).2.1 = q) => rdK_step1 (κ := 5) (l := l) (k := k) (by omega) hq)
      clear hcc
      generalize l[k]'(by omega) = x at *
      generalize (rdK 5 l 1 k).2.1 = a at *
      clear hlen hkn hkk
      by_cases hc : x ≠ a
      · have hq : (x != a) = true := bne_t hc
        obtain ⟨s1, s2⟩ := HST.out true hq
        have HL : Hid ((rdK 5 l 1 (k + 1)).1 = (rdK 5 l 1 k).1 ++ [49]) := s1
        have HS := Lib.hid s2
        clear hc s1 s2 HST
        go_wp2_with fail
        refine (HDB.out _).mono ?_; rintro e w' ⟨rfl, rfl⟩
        go_wp2_with (at_builtin; refine wpList_append_lies _ rfl _ _ 45 rfl w.heap.size 5 i0 (.int .u8 0) 1 1 Try.underlying45 hi hz0 hz1 hz2 rfl (by decide) _ _ _ rfl (World.ownsRow.alloc HO.out _) ⟨wr.heap.size, 0, none⟩ 1 1 [.int .u8 49] rfl rfl (c1_one _ _ _) (by intro u hu; simp at hu; subst hu; rfl) (by decide) (by unfold maxLen; omega) (by omega) (by simp; omega) (wr.heap.size + 1) (by simp) ?_)
        intro g1 cap1 w1 hown1 hgrow1 hat1 hlt1
        have HO1 : Hid (w1.ownsRow w.heap.size 5 1 (.slice (some ⟨g1, 0, none⟩) (k + 1) cap1) (k + 1) (byteVals (rdK 5 l 1 (k + 1)).1)) := by
          show World.ownsRow _ _ _ _ _ _ _
          rw [HL.out, ← byteVals_snoc]; exact hown1
        have HB1 := Lib.hid (below_app HB.out HB.out.size HO.out hgrow1)
        clear hown1 hgrow1 hat1 hlt1
        go_wp2_with fail
        go_roundw
        case rel => exact ⟨k + 1, by omega, by go_num, HO1.out, by rw [HS.out], HB1.out⟩
        case measure => simp [intOf]; omega
      · have hq : (x != a) = false := by simpa using hc
        obtain ⟨s1, s2⟩ := HST.out false hq
        have HL : Hid ((rdK 5 l 1 (k + 1)).1 = (rdK 5 l 1 k).1 ++ [48]) := s1
        have HS := Lib.hid s2
        clear hc s1 s2 HST
        go_wp2_with fail
        refine (HDB.out _).mono ?_; rintro e w' ⟨rfl, rfl⟩
        go_wp2_with (at_builtin; refine wpList_append_lies _ rfl _ _ 45 rfl w.heap.size 5 i0 (.int .u8 0) 1 1 Try.underlying45 hi hz0 hz1 hz2 rfl (by decide) _ _ _ rfl (World.ownsRow.alloc HO.out _) ⟨wr.heap.size, 0, none⟩ 1 1 [.int .u8 48] rfl rfl (c1_one _ _ _) (by intro u hu; simp at hu; subst hu; rfl) (by decide) (by unfold maxLen; omega) (by omega) (by simp; omega) (wr.heap.size + 1) (by simp) ?_)
        intro g1 cap1 w1 hown1 hgrow1 hat1 hlt1
        have HO1 : Hid (w1.ownsRow w.heap.size 5 1 (.slice (some ⟨g1, 0, none⟩) (k + 1) cap1) (k + 1) (byteVals (rdK 5 l 1 (k + 1)).1)) := by
          show World.ownsRow _ _ _ _ _ _ _
          rw [HL.out, ← byteVals_snoc]; exact hown1
        have HB1 := Lib.hid (below_app HB.out HB.out.size HO.out hgrow1)
        clear hown1 hgrow1 hat1 hlt1
        go_wp2_with fail
        go_roundw
        case rel => exact ⟨k + 1, by omega, by go_num, HO1.out, by rw [HS.out], HB1.out⟩
        case measure => simp [intOf]; omega
    · obtain rfl : k = K := by omega
      have hnl : ¬ (k : Int) < (n : Int) := by omega
      have hcv := conv_own HO.out
      clear hkn
      go_wp2_with fail
      go_ret
      exact ⟨rfl, HB.out⟩
end Go.Proofs.Ytmhdjimdhcephaa
