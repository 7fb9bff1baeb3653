/- The model's levels of bits, kind by kind. -/
import Derived.Test.YtmhdjimdhcephaaLvD
namespace Go.Proofs.Ytmhdjimdhcephaa
open Go Go.RowKit
set_option linter.unusedVariables false

theorem l10Before_any (κ : Nat) (hκ : κ ≤ 5) (w : World) :
    Calls Try.prog 90 #[.int .i64 (κ : Int)] w fun e w' => e = .returned (.int .i64 (stE κ).1) ∧ w = w' := by
  rcases six hκ with rfl | rfl | rfl | rfl | rfl | rfl
  all_goals
    go_enter Try.func90, Try.ntmps90
    go_wp2_with fail
    go_ret
    exact ⟨rfl, rfl⟩
theorem lvL_succ {κ : Nat} {l : List UInt8} {k : Nat} {b : Bool} {a m : Int} {ls : List Int} (hb : (l.getD k 0 == 49) = b) (ha : (lvS κ l k).1 = a) (hm : (lvS κ l k).2 = m) (hl : lsK κ b a m = ls) :
    lvL κ l (k + 1) = lvL κ l k ++ ls ∧ lvS κ l (k + 1) = psE ls (a, m) := by
  rw [lvL, lvS, hb, ha, hm, hl]
  exact ⟨rfl, by rw [← ha, ← hm]⟩
/-- The place in the circle of LineThree. -/
def P5 (at' : Nat) (a m : Int) : Prop := (at' = 0 ∧ a = 0 ∧ m = -1) ∨ (at' = 1 ∧ a = 1 ∧ m = 1) ∨ (at' = 2 ∧ a = 0 ∧ m = 1) ∨ (at' = 3 ∧ a = -1 ∧ m = -1)
theorem getD_49 (s : ByteArray) (k : Nat) (h : k < s.size) : (s.data.toList.getD k 0 == 49) = ((s[k].toNat : Int) == 49) := by
  rw [byte_49, List.getD_eq_getElem?_getD, List.getElem?_eq_getElem (by simpa using h)]; rfl
theorem own_len1 {W : World} {base : Nat} {v : Value} {L : List Int} {x : Int} (h : Own W base v (L ++ [x])) (o : Obj) : (W.alloc o).ownsRow base 2 1 v (L.length + 1) (intVals (L ++ [x])) := by
  have := World.ownsRow.alloc h o
  rwa [List.length_append] at this

set_option maxRecDepth 100000 in
set_option maxHeartbeats 4000000 in
theorem levelsM_0 (s : ByteArray) (w : World) (hB : isB s.data.toList = true) :
    Calls Try.prog 56 #[.int .i64 0, .string s] w fun e w' => ∃ u, e = .returned u ∧ Own w' w.heap.size u (lvL 0 s.data.toList s.size) ∧ Below w.heap.size w w' := by
  obtain ⟨i0, hi, hz0, hz1, hz2⟩ := info_parts Try.infoInt
  have hsz : s.size ≤ 400 := isB_lenL hB
  have HBF := Lib.hid (fun W => l10Before_any 0 (by decide) W)
  obtain ⟨W1, hW1⟩ : ∃ W1, W1 = (w.alloc (.cells #[] 2)).alloc (.cells #[.int .i64 0, .int .i64 1, .int .i64 0, .int .i64 (-1)] 2) := ⟨_, rfl⟩
  have B1 : Hid (Below w.heap.size w W1) := by show Below _ _ _; rw [hW1]; exact ((Below.refl _ _).alloc (Nat.le_refl _) _).alloc (by simp) _
  have O1 : Hid (Own W1 w.heap.size (.slice (some ⟨w.heap.size, 0, none⟩) 0 0) []) := by
    show Own _ _ _ _
    rw [hW1]
    exact Own.keep (World.ownsRow_made w #[] 0 (Nat.le_refl _) (by decide) rfl) ((Below.refl _ _).alloc (Nat.le_refl _) _)
  have C1 : Hid (Bk W1 (w.heap.size + 1) [.int .i64 0, .int .i64 1, .int .i64 0, .int .i64 (-1)]) := by show Bk _ _ _; rw [hW1]; exact Bk.new _ [.int .i64 0, .int .i64 1, .int .i64 0, .int .i64 (-1)] _ _ (by simp)
  have Z1 : Hid (w.heap.size + 2 ≤ W1.heap.size) := by show _ ≤ _; rw [hW1]; simp
  have V1 : Hid (∀ k, (Value.slice (some ⟨w.heap.size, 0, none⟩) 0 0).ownBlock = some k → k ≠ w.heap.size + 1) := by
    show ∀ k, _
    intro k hk
    simp [Value.ownBlock] at hk
    omega
  have HW1 := Lib.hid hW1
  have HBS : Hid (∀ i (h : i < s.size), s[i] = 48 ∨ s[i] = 49) := fun i h => isB_at hB i h
  clear hW1 hB
  go_enter Try.func56, Try.ntmps56
  go_wp2_with fail
  refine (HBF.out _).mono ?_; rintro e w' ⟨rfl, rfl⟩
  go_wp2_with fail
  go_loopw [5, 6, 7, 8, 10] (fun v la mk at' i wr => ∃ k : Nat, k ≤ s.size ∧ i = .int .i64 k ∧ Own wr w.heap.size v (lvL 0 s.data.toList k) ∧ la = .int .i64 (lvS 0 s.data.toList k).1 ∧ (mk = .int .i64 1 ∧ at' = .int .i64 0) ∧ Bk wr (w.heap.size + 1) [.int .i64 0, .int .i64 1, .int .i64 0, .int .i64 (-1)] ∧ (∀ k, v.ownBlock = some k → k ≠ w.heap.size + 1) ∧ w.heap.size + 2 ≤ wr.heap.size ∧ Below w.heap.size w wr) (fun _ _ _ _ i _ => s.size - (intOf i).toNat)
  case atStart => rw [← HW1.out]; exact ⟨0, Nat.zero_le _, rfl, O1.out, rfl, ⟨rfl, rfl⟩, C1.out, V1.out, Z1.out, B1.out⟩
  case round =>
    obtain ⟨k, hk, rfl, ho, rfl, ⟨rfl, rfl⟩, hc, hv, hz, hb⟩ := hrel
    have HO := Lib.hid ho
    have HC := Lib.hid hc
    have HV := Lib.hid hv
    have HZ := Lib.hid hz
    have HB := Lib.hid hb
    clear ho hc hv hz hb O1 C1 V1 Z1 B1
    by_cases hlt : k < s.size
    · have hk0 : (0 : Int) ≤ (k : Int) := by omega
      have hk1 : (k : Int) < (s.size : Int) := by omega
      obtain ⟨t1, t2⟩ := lvS_tri 0 s.data.toList k
      have hll := lvL_len 0 s.data.toList k
      have hwd := wdK_bd 0
      have hl8 : k * wdK 0 ≤ 800 := Nat.le_trans (Nat.mul_le_mul (show k ≤ 400 by omega) hwd.2) (by decide)
      have HG := Lib.hid (getD_49 s k hlt)
      obtain ⟨A1, cc1, hv1⟩ := own_shape HO.out
      subst hv1
      have hsz2 := HB.out.size
      have hzz := HZ.out
      rcases HBS.out k hlt with h48 | h49
      · have hq : ((s[k].toNat : Int) == 49) = false := by rw [h48]; rfl
        clear h48
        clear t1 t2
        obtain ⟨q1, q2⟩ := lvL_succ (κ := 0) (l := s.data.toList) (k := k) (b := false) (a := (lvS 0 s.data.toList k).1) (m := (lvS 0 s.data.toList k).2) (ls := [(-1)]) (by rw [HG.out]; exact hq) rfl rfl rfl
        have HL : Hid (lvL 0 s.data.toList (k + 1) = lvL 0 s.data.toList k ++ [(-1)]) := by show _ = _; rw [q1]
        have HS := Lib.hid q2
        clear q1 q2
        generalize (lvS 0 s.data.toList k).1 = a at *
        generalize (lvS 0 s.data.toList k).2 = m at *
        generalize lvL 0 s.data.toList k = L at *
        have hl9 : L.length ≤ 800 := by omega
        clear hll hwd hl8
        go_wp2_with (at_builtin; refine wpList_append_lies _ rfl _ _ 22 rfl w.heap.size 2 i0 (.int .i64 0) 1 8 Try.underlying22 hi hz0 hz1 hz2 rfl (by decide) _ _ _ rfl (World.ownsRow.alloc HO.out _) ⟨wr.heap.size, 0, none⟩ 1 1 [.int .i64 (-1)] rfl rfl (c1_int _ _ _) (by intro u hu; simp at hu; subst hu; rfl) (by decide) (by unfold maxLen; omega) (by omega) (by simp; omega) (wr.heap.size + 1) (by simp) ?_)
        intro g1 cap1 w1 hown1 hgrow1 hat1 hlt1
        have O1 : Hid (Own w1 w.heap.size (.slice (some ⟨g1, 0, none⟩) (L.length + 1) cap1) (L ++ [(-1)])) := by
          show Own _ _ _ _
          unfold Own
          rw [List.length_append, intVals_app]; exact hown1
        have BL1 := Lib.hid (below_cons HB.out HB.out.size HO.out hgrow1)
        have CI1 := Lib.hid ((HC.out.alloc _).gb hgrow1 (fun k hk => HV.out k hk))
        have ZZ1 : Hid (w.heap.size + 2 ≤ w1.heap.size) := by show _ ≤ _; have h1 := hgrow1.size; have h2 := HZ.out; simp at h1; omega
        have VB1 : Hid (∀ k, (Value.slice (some ⟨g1, 0, none⟩) (L.length + 1) cap1).ownBlock = some k → k ≠ w.heap.size + 1) := by
          show ∀ k, _
          intro k hk
          simp [Value.ownBlock] at hk
          subst hk
          rcases hat1 with h | h
          · exact HV.out _ h
          · have := HZ.out; omega
        clear hown1 hgrow1 hat1 hlt1
        go_wp2_with fail
        go_roundw
        case rel => exact ⟨k + 1, by omega, by go_num, by rw [HL.out]; exact O1.out, by rw [HS.out]; rfl, ⟨rfl, rfl⟩, CI1.out, VB1.out, ZZ1.out, BL1.out⟩
        case measure => simp [intOf]; omega
      · have hq : ((s[k].toNat : Int) == 49) = true := by rw [h49]; rfl
        clear h49
        clear t1 t2
        obtain ⟨q1, q2⟩ := lvL_succ (κ := 0) (l := s.data.toList) (k := k) (b := true) (a := (lvS 0 s.data.toList k).1) (m := (lvS 0 s.data.toList k).2) (ls := [1]) (by rw [HG.out]; exact hq) rfl rfl rfl
        have HL : Hid (lvL 0 s.data.toList (k + 1) = lvL 0 s.data.toList k ++ [1]) := by show _ = _; rw [q1]
        have HS := Lib.hid q2
        clear q1 q2
        generalize (lvS 0 s.data.toList k).1 = a at *
        generalize (lvS 0 s.data.toList k).2 = m at *
        generalize lvL 0 s.data.toList k = L at *
        have hl9 : L.length ≤ 800 := by omega
        clear hll hwd hl8
        go_wp2_with (at_builtin; refine wpList_append_lies _ rfl _ _ 22 rfl w.heap.size 2 i0 (.int .i64 0) 1 8 Try.underlying22 hi hz0 hz1 hz2 rfl (by decide) _ _ _ rfl (World.ownsRow.alloc HO.out _) ⟨wr.heap.size, 0, none⟩ 1 1 [.int .i64 1] rfl rfl (c1_int _ _ _) (by intro u hu; simp at hu; subst hu; rfl) (by decide) (by unfold maxLen; omega) (by omega) (by simp; omega) (wr.heap.size + 1) (by simp) ?_)
        intro g1 cap1 w1 hown1 hgrow1 hat1 hlt1
        have O1 : Hid (Own w1 w.heap.size (.slice (some ⟨g1, 0, none⟩) (L.length + 1) cap1) (L ++ [1])) := by
          show Own _ _ _ _
          unfold Own
          rw [List.length_append, intVals_app]; exact hown1
        have BL1 := Lib.hid (below_cons HB.out HB.out.size HO.out hgrow1)
        have CI1 := Lib.hid ((HC.out.alloc _).gb hgrow1 (fun k hk => HV.out k hk))
        have ZZ1 : Hid (w.heap.size + 2 ≤ w1.heap.size) := by show _ ≤ _; have h1 := hgrow1.size; have h2 := HZ.out; simp at h1; omega
        have VB1 : Hid (∀ k, (Value.slice (some ⟨g1, 0, none⟩) (L.length + 1) cap1).ownBlock = some k → k ≠ w.heap.size + 1) := by
          show ∀ k, _
          intro k hk
          simp [Value.ownBlock] at hk
          subst hk
          rcases hat1 with h | h
          · exact HV.out _ h
          · have := HZ.out; omega
        clear hown1 hgrow1 hat1 hlt1
        go_wp2_with fail
        go_roundw
        case rel => exact ⟨k + 1, by omega, by go_num, by rw [HL.out]; exact O1.out, by rw [HS.out]; rfl, ⟨rfl, rfl⟩, CI1.out, VB1.out, ZZ1.out, BL1.out⟩
        case measure => simp [intOf]; omega
    · obtain rfl : k = s.size := by omega
      go_wp2_with fail
      go_ret
      exact ⟨_, rfl, HO.out, HB.out⟩

set_option maxRecDepth 100000 in
set_option maxHeartbeats 4000000 in
theorem levelsM_1 (s : ByteArray) (w : World) (hB : isB s.data.toList = true) :
    Calls Try.prog 56 #[.int .i64 1, .string s] w fun e w' => ∃ u, e = .returned u ∧ Own w' w.heap.size u (lvL 1 s.data.toList s.size) ∧ Below w.heap.size w w' := by
  obtain ⟨i0, hi, hz0, hz1, hz2⟩ := info_parts Try.infoInt
  have hsz : s.size ≤ 400 := isB_lenL hB
  have HBF := Lib.hid (fun W => l10Before_any 1 (by decide) W)
  obtain ⟨W1, hW1⟩ : ∃ W1, W1 = (w.alloc (.cells #[] 2)).alloc (.cells #[.int .i64 0, .int .i64 1, .int .i64 0, .int .i64 (-1)] 2) := ⟨_, rfl⟩
  have B1 : Hid (Below w.heap.size w W1) := by show Below _ _ _; rw [hW1]; exact ((Below.refl _ _).alloc (Nat.le_refl _) _).alloc (by simp) _
  have O1 : Hid (Own W1 w.heap.size (.slice (some ⟨w.heap.size, 0, none⟩) 0 0) []) := by
    show Own _ _ _ _
    rw [hW1]
    exact Own.keep (World.ownsRow_made w #[] 0 (Nat.le_refl _) (by decide) rfl) ((Below.refl _ _).alloc (Nat.le_refl _) _)
  have C1 : Hid (Bk W1 (w.heap.size + 1) [.int .i64 0, .int .i64 1, .int .i64 0, .int .i64 (-1)]) := by show Bk _ _ _; rw [hW1]; exact Bk.new _ [.int .i64 0, .int .i64 1, .int .i64 0, .int .i64 (-1)] _ _ (by simp)
  have Z1 : Hid (w.heap.size + 2 ≤ W1.heap.size) := by show _ ≤ _; rw [hW1]; simp
  have V1 : Hid (∀ k, (Value.slice (some ⟨w.heap.size, 0, none⟩) 0 0).ownBlock = some k → k ≠ w.heap.size + 1) := by
    show ∀ k, _
    intro k hk
    simp [Value.ownBlock] at hk
    omega
  have HW1 := Lib.hid hW1
  have HBS : Hid (∀ i (h : i < s.size), s[i] = 48 ∨ s[i] = 49) := fun i h => isB_at hB i h
  clear hW1 hB
  go_enter Try.func56, Try.ntmps56
  go_wp2_with fail
  refine (HBF.out _).mono ?_; rintro e w' ⟨rfl, rfl⟩
  go_wp2_with fail
  go_loopw [5, 6, 7, 8, 10] (fun v la mk at' i wr => ∃ k : Nat, k ≤ s.size ∧ i = .int .i64 k ∧ Own wr w.heap.size v (lvL 1 s.data.toList k) ∧ la = .int .i64 (lvS 1 s.data.toList k).1 ∧ (mk = .int .i64 1 ∧ at' = .int .i64 0) ∧ Bk wr (w.heap.size + 1) [.int .i64 0, .int .i64 1, .int .i64 0, .int .i64 (-1)] ∧ (∀ k, v.ownBlock = some k → k ≠ w.heap.size + 1) ∧ w.heap.size + 2 ≤ wr.heap.size ∧ Below w.heap.size w wr) (fun _ _ _ _ i _ => s.size - (intOf i).toNat)
  case atStart => rw [← HW1.out]; exact ⟨0, Nat.zero_le _, rfl, O1.out, rfl, ⟨rfl, rfl⟩, C1.out, V1.out, Z1.out, B1.out⟩
  case round =>
    obtain ⟨k, hk, rfl, ho, rfl, ⟨rfl, rfl⟩, hc, hv, hz, hb⟩ := hrel
    have HO := Lib.hid ho
    have HC := Lib.hid hc
    have HV := Lib.hid hv
    have HZ := Lib.hid hz
    have HB := Lib.hid hb
    clear ho hc hv hz hb O1 C1 V1 Z1 B1
    by_cases hlt : k < s.size
    · have hk0 : (0 : Int) ≤ (k : Int) := by omega
      have hk1 : (k : Int) < (s.size : Int) := by omega
      obtain ⟨t1, t2⟩ := lvS_tri 1 s.data.toList k
      have hll := lvL_len 1 s.data.toList k
      have hwd := wdK_bd 1
      have hl8 : k * wdK 1 ≤ 800 := Nat.le_trans (Nat.mul_le_mul (show k ≤ 400 by omega) hwd.2) (by decide)
      have HG := Lib.hid (getD_49 s k hlt)
      obtain ⟨A1, cc1, hv1⟩ := own_shape HO.out
      subst hv1
      have hsz2 := HB.out.size
      have hzz := HZ.out
      rcases HBS.out k hlt with h48 | h49
      · have hq : ((s[k].toNat : Int) == 49) = false := by rw [h48]; rfl
        clear h48
        have ha := tri_bd t1
        have w9 : IntKind.i64.wrap (-(lvS 1 s.data.toList k).1) = -(lvS 1 s.data.toList k).1 := IntWalk.i64_in _ (by omega)
        clear t1 t2 ha
        obtain ⟨q1, q2⟩ := lvL_succ (κ := 1) (l := s.data.toList) (k := k) (b := false) (a := (lvS 1 s.data.toList k).1) (m := (lvS 1 s.data.toList k).2) (ls := [(lvS 1 s.data.toList k).1]) (by rw [HG.out]; exact hq) rfl rfl (by show [-sg _ * _] = _; simp [sg])
        have HL : Hid (lvL 1 s.data.toList (k + 1) = lvL 1 s.data.toList k ++ [(lvS 1 s.data.toList k).1]) := by show _ = _; rw [q1]
        have HS := Lib.hid q2
        clear q1 q2
        generalize (lvS 1 s.data.toList k).1 = a at *
        generalize (lvS 1 s.data.toList k).2 = m at *
        generalize lvL 1 s.data.toList k = L at *
        have hl9 : L.length ≤ 800 := by omega
        clear hll hwd hl8
        go_wp2_with (at_builtin; refine wpList_append_lies _ rfl _ _ 22 rfl w.heap.size 2 i0 (.int .i64 0) 1 8 Try.underlying22 hi hz0 hz1 hz2 rfl (by decide) _ _ _ rfl (World.ownsRow.alloc HO.out _) ⟨wr.heap.size, 0, none⟩ 1 1 [.int .i64 a] rfl rfl (c1_int _ _ _) (by intro u hu; simp at hu; subst hu; rfl) (by decide) (by unfold maxLen; omega) (by omega) (by simp; omega) (wr.heap.size + 1) (by simp) ?_)
        intro g1 cap1 w1 hown1 hgrow1 hat1 hlt1
        have O1 : Hid (Own w1 w.heap.size (.slice (some ⟨g1, 0, none⟩) (L.length + 1) cap1) (L ++ [a])) := by
          show Own _ _ _ _
          unfold Own
          rw [List.length_append, intVals_app]; exact hown1
        have BL1 := Lib.hid (below_cons HB.out HB.out.size HO.out hgrow1)
        have CI1 := Lib.hid ((HC.out.alloc _).gb hgrow1 (fun k hk => HV.out k hk))
        have ZZ1 : Hid (w.heap.size + 2 ≤ w1.heap.size) := by show _ ≤ _; have h1 := hgrow1.size; have h2 := HZ.out; simp at h1; omega
        have VB1 : Hid (∀ k, (Value.slice (some ⟨g1, 0, none⟩) (L.length + 1) cap1).ownBlock = some k → k ≠ w.heap.size + 1) := by
          show ∀ k, _
          intro k hk
          simp [Value.ownBlock] at hk
          subst hk
          rcases hat1 with h | h
          · exact HV.out _ h
          · have := HZ.out; omega
        clear hown1 hgrow1 hat1 hlt1
        go_wp2_with fail
        go_roundw
        case rel => exact ⟨k + 1, by omega, by go_num, by rw [HL.out]; exact O1.out, by rw [HS.out]; rfl, ⟨rfl, rfl⟩, CI1.out, VB1.out, ZZ1.out, BL1.out⟩
        case measure => simp [intOf]; omega
      · have hq : ((s[k].toNat : Int) == 49) = true := by rw [h49]; rfl
        clear h49
        have ha := tri_bd t1
        have w9 : IntKind.i64.wrap (-(lvS 1 s.data.toList k).1) = -(lvS 1 s.data.toList k).1 := IntWalk.i64_in _ (by omega)
        clear t1 t2 ha
        obtain ⟨q1, q2⟩ := lvL_succ (κ := 1) (l := s.data.toList) (k := k) (b := true) (a := (lvS 1 s.data.toList k).1) (m := (lvS 1 s.data.toList k).2) (ls := [(-(lvS 1 s.data.toList k).1)]) (by rw [HG.out]; exact hq) rfl rfl (by show [-sg _ * _] = _; simp [sg])
        have HL : Hid (lvL 1 s.data.toList (k + 1) = lvL 1 s.data.toList k ++ [(-(lvS 1 s.data.toList k).1)]) := by show _ = _; rw [q1]
        have HS := Lib.hid q2
        clear q1 q2
        generalize (lvS 1 s.data.toList k).1 = a at *
        generalize (lvS 1 s.data.toList k).2 = m at *
        generalize lvL 1 s.data.toList k = L at *
        have hl9 : L.length ≤ 800 := by omega
        clear hll hwd hl8
        go_wp2_with (at_builtin; refine wpList_append_lies _ rfl _ _ 22 rfl w.heap.size 2 i0 (.int .i64 0) 1 8 Try.underlying22 hi hz0 hz1 hz2 rfl (by decide) _ _ _ rfl (World.ownsRow.alloc HO.out _) ⟨wr.heap.size, 0, none⟩ 1 1 [.int .i64 (-a)] rfl rfl (c1_int _ _ _) (by intro u hu; simp at hu; subst hu; rfl) (by decide) (by unfold maxLen; omega) (by omega) (by simp; omega) (wr.heap.size + 1) (by simp) ?_)
        intro g1 cap1 w1 hown1 hgrow1 hat1 hlt1
        have O1 : Hid (Own w1 w.heap.size (.slice (some ⟨g1, 0, none⟩) (L.length + 1) cap1) (L ++ [(-a)])) := by
          show Own _ _ _ _
          unfold Own
          rw [List.length_append, intVals_app]; exact hown1
        have BL1 := Lib.hid (below_cons HB.out HB.out.size HO.out hgrow1)
        have CI1 := Lib.hid ((HC.out.alloc _).gb hgrow1 (fun k hk => HV.out k hk))
        have ZZ1 : Hid (w.heap.size + 2 ≤ w1.heap.size) := by show _ ≤ _; have h1 := hgrow1.size; have h2 := HZ.out; simp at h1; omega
        have VB1 : Hid (∀ k, (Value.slice (some ⟨g1, 0, none⟩) (L.length + 1) cap1).ownBlock = some k → k ≠ w.heap.size + 1) := by
          show ∀ k, _
          intro k hk
          simp [Value.ownBlock] at hk
          subst hk
          rcases hat1 with h | h
          · exact HV.out _ h
          · have := HZ.out; omega
        clear hown1 hgrow1 hat1 hlt1
        go_wp2_with fail
        go_roundw
        case rel => exact ⟨k + 1, by omega, by go_num, by rw [HL.out]; exact O1.out, by rw [HS.out]; rfl, ⟨rfl, rfl⟩, CI1.out, VB1.out, ZZ1.out, BL1.out⟩
        case measure => simp [intOf]; omega
    · obtain rfl : k = s.size := by omega
      go_wp2_with fail
      go_ret
      exact ⟨_, rfl, HO.out, HB.out⟩

set_option maxRecDepth 100000 in
set_option maxHeartbeats 4000000 in
theorem levelsM_2 (s : ByteArray) (w : World) (hB : isB s.data.toList = true) :
    Calls Try.prog 56 #[.int .i64 2, .string s] w fun e w' => ∃ u, e = .returned u ∧ Own w' w.heap.size u (lvL 2 s.data.toList s.size) ∧ Below w.heap.size w w' := by
  obtain ⟨i0, hi, hz0, hz1, hz2⟩ := info_parts Try.infoInt
  have hsz : s.size ≤ 400 := isB_lenL hB
  have HBF := Lib.hid (fun W => l10Before_any 2 (by decide) W)
  obtain ⟨W1, hW1⟩ : ∃ W1, W1 = (w.alloc (.cells #[] 2)).alloc (.cells #[.int .i64 0, .int .i64 1, .int .i64 0, .int .i64 (-1)] 2) := ⟨_, rfl⟩
  have B1 : Hid (Below w.heap.size w W1) := by show Below _ _ _; rw [hW1]; exact ((Below.refl _ _).alloc (Nat.le_refl _) _).alloc (by simp) _
  have O1 : Hid (Own W1 w.heap.size (.slice (some ⟨w.heap.size, 0, none⟩) 0 0) []) := by
    show Own _ _ _ _
    rw [hW1]
    exact Own.keep (World.ownsRow_made w #[] 0 (Nat.le_refl _) (by decide) rfl) ((Below.refl _ _).alloc (Nat.le_refl _) _)
  have C1 : Hid (Bk W1 (w.heap.size + 1) [.int .i64 0, .int .i64 1, .int .i64 0, .int .i64 (-1)]) := by show Bk _ _ _; rw [hW1]; exact Bk.new _ [.int .i64 0, .int .i64 1, .int .i64 0, .int .i64 (-1)] _ _ (by simp)
  have Z1 : Hid (w.heap.size + 2 ≤ W1.heap.size) := by show _ ≤ _; rw [hW1]; simp
  have V1 : Hid (∀ k, (Value.slice (some ⟨w.heap.size, 0, none⟩) 0 0).ownBlock = some k → k ≠ w.heap.size + 1) := by
    show ∀ k, _
    intro k hk
    simp [Value.ownBlock] at hk
    omega
  have HW1 := Lib.hid hW1
  have HBS : Hid (∀ i (h : i < s.size), s[i] = 48 ∨ s[i] = 49) := fun i h => isB_at hB i h
  clear hW1 hB
  go_enter Try.func56, Try.ntmps56
  go_wp2_with fail
  refine (HBF.out _).mono ?_; rintro e w' ⟨rfl, rfl⟩
  go_wp2_with fail
  go_loopw [5, 6, 7, 8, 10] (fun v la mk at' i wr => ∃ k : Nat, k ≤ s.size ∧ i = .int .i64 k ∧ Own wr w.heap.size v (lvL 2 s.data.toList k) ∧ la = .int .i64 (lvS 2 s.data.toList k).1 ∧ (mk = .int .i64 1 ∧ at' = .int .i64 0) ∧ Bk wr (w.heap.size + 1) [.int .i64 0, .int .i64 1, .int .i64 0, .int .i64 (-1)] ∧ (∀ k, v.ownBlock = some k → k ≠ w.heap.size + 1) ∧ w.heap.size + 2 ≤ wr.heap.size ∧ Below w.heap.size w wr) (fun _ _ _ _ i _ => s.size - (intOf i).toNat)
  case atStart => rw [← HW1.out]; exact ⟨0, Nat.zero_le _, rfl, O1.out, rfl, ⟨rfl, rfl⟩, C1.out, V1.out, Z1.out, B1.out⟩
  case round =>
    obtain ⟨k, hk, rfl, ho, rfl, ⟨rfl, rfl⟩, hc, hv, hz, hb⟩ := hrel
    have HO := Lib.hid ho
    have HC := Lib.hid hc
    have HV := Lib.hid hv
    have HZ := Lib.hid hz
    have HB := Lib.hid hb
    clear ho hc hv hz hb O1 C1 V1 Z1 B1
    by_cases hlt : k < s.size
    · have hk0 : (0 : Int) ≤ (k : Int) := by omega
      have hk1 : (k : Int) < (s.size : Int) := by omega
      obtain ⟨t1, t2⟩ := lvS_tri 2 s.data.toList k
      have hll := lvL_len 2 s.data.toList k
      have hwd := wdK_bd 2
      have hl8 : k * wdK 2 ≤ 800 := Nat.le_trans (Nat.mul_le_mul (show k ≤ 400 by omega) hwd.2) (by decide)
      have HG := Lib.hid (getD_49 s k hlt)
      obtain ⟨A1, cc1, hv1⟩ := own_shape HO.out
      subst hv1
      have hsz2 := HB.out.size
      have hzz := HZ.out
      rcases HBS.out k hlt with h48 | h49
      · have hq : ((s[k].toNat : Int) == 49) = false := by rw [h48]; rfl
        clear h48
        clear t1 t2
        obtain ⟨q1, q2⟩ := lvL_succ (κ := 2) (l := s.data.toList) (k := k) (b := false) (a := (lvS 2 s.data.toList k).1) (m := (lvS 2 s.data.toList k).2) (ls := [1, (-1)]) (by rw [HG.out]; exact hq) rfl rfl rfl
        have HL : Hid (lvL 2 s.data.toList (k + 1) = lvL 2 s.data.toList k ++ [1] ++ [(-1)]) := by show _ = _; rw [q1]; simp
        have HS := Lib.hid q2
        clear q1 q2
        generalize (lvS 2 s.data.toList k).1 = a at *
        generalize (lvS 2 s.data.toList k).2 = m at *
        generalize lvL 2 s.data.toList k = L at *
        have hl9 : L.length ≤ 800 := by omega
        clear hll hwd hl8
        go_wp2_with (at_builtin; refine wpList_append_lies _ rfl _ _ 22 rfl w.heap.size 2 i0 (.int .i64 0) 1 8 Try.underlying22 hi hz0 hz1 hz2 rfl (by decide) _ _ _ rfl (World.ownsRow.alloc HO.out _) ⟨wr.heap.size, 0, none⟩ 1 1 [.int .i64 1] rfl rfl (c1_int _ _ _) (by intro u hu; simp at hu; subst hu; rfl) (by decide) (by unfold maxLen; omega) (by omega) (by simp; omega) (wr.heap.size + 1) (by simp) ?_)
        intro g1 cap1 w1 hown1 hgrow1 hat1 hlt1
        have O1 : Hid (Own w1 w.heap.size (.slice (some ⟨g1, 0, none⟩) (L.length + 1) cap1) (L ++ [1])) := by
          show Own _ _ _ _
          unfold Own
          rw [List.length_append, intVals_app]; exact hown1
        have BL1 := Lib.hid (below_cons HB.out HB.out.size HO.out hgrow1)
        have CI1 := Lib.hid ((HC.out.alloc _).gb hgrow1 (fun k hk => HV.out k hk))
        have ZZ1 : Hid (w.heap.size + 2 ≤ w1.heap.size) := by show _ ≤ _; have h1 := hgrow1.size; have h2 := HZ.out; simp at h1; omega
        have VB1 : Hid (∀ k, (Value.slice (some ⟨g1, 0, none⟩) (L.length + 1) cap1).ownBlock = some k → k ≠ w.heap.size + 1) := by
          show ∀ k, _
          intro k hk
          simp [Value.ownBlock] at hk
          subst hk
          rcases hat1 with h | h
          · exact HV.out _ h
          · have := HZ.out; omega
        clear hown1 hgrow1 hat1 hlt1
        have hzn := ZZ1.out
        go_wp2_with (at_builtin; refine wpList_append_lies _ rfl _ _ 22 rfl w.heap.size 2 i0 (.int .i64 0) 1 8 Try.underlying22 hi hz0 hz1 hz2 rfl (by decide) _ _ _ rfl (own_len1 O1.out _) ⟨w1.heap.size, 0, none⟩ 1 1 [.int .i64 (-1)] rfl rfl (c1_int _ _ _) (by intro u hu; simp at hu; subst hu; rfl) (by decide) (by unfold maxLen; omega) (by omega) (by simp; omega) (w1.heap.size + 1) (by simp) ?_)
        intro g2 cap2 w2 hown2 hgrow2 hat2 hlt2
        have O2 : Hid (Own w2 w.heap.size (.slice (some ⟨g2, 0, none⟩) ((L.length + 1) + 1) cap2) ((L ++ [1]) ++ [(-1)])) := by
          show Own _ _ _ _
          unfold Own
          rw [List.length_append, List.length_append, intVals_app]; exact hown2
        have BL2 := Lib.hid (below_cons BL1.out BL1.out.size O1.out hgrow2)
        have CI2 := Lib.hid ((CI1.out.alloc _).gb hgrow2 (fun k hk => VB1.out k hk))
        have ZZ2 : Hid (w.heap.size + 2 ≤ w2.heap.size) := by show _ ≤ _; have h1 := hgrow2.size; have h2 := ZZ1.out; simp at h1; omega
        have VB2 : Hid (∀ k, (Value.slice (some ⟨g2, 0, none⟩) ((L.length + 1) + 1) cap2).ownBlock = some k → k ≠ w.heap.size + 1) := by
          show ∀ k, _
          intro k hk
          simp [Value.ownBlock] at hk
          subst hk
          rcases hat2 with h | h
          · exact VB1.out _ h
          · have := ZZ1.out; omega
        clear hown2 hgrow2 hat2 hlt2
        go_wp2_with fail
        go_roundw
        case rel => exact ⟨k + 1, by omega, by go_num, by rw [HL.out]; exact O2.out, by rw [HS.out]; rfl, ⟨rfl, rfl⟩, CI2.out, VB2.out, ZZ2.out, BL2.out⟩
        case measure => simp [intOf]; omega
      · have hq : ((s[k].toNat : Int) == 49) = true := by rw [h49]; rfl
        clear h49
        clear t1 t2
        obtain ⟨q1, q2⟩ := lvL_succ (κ := 2) (l := s.data.toList) (k := k) (b := true) (a := (lvS 2 s.data.toList k).1) (m := (lvS 2 s.data.toList k).2) (ls := [(-1), 1]) (by rw [HG.out]; exact hq) rfl rfl rfl
        have HL : Hid (lvL 2 s.data.toList (k + 1) = lvL 2 s.data.toList k ++ [(-1)] ++ [1]) := by show _ = _; rw [q1]; simp
        have HS := Lib.hid q2
        clear q1 q2
        generalize (lvS 2 s.data.toList k).1 = a at *
        generalize (lvS 2 s.data.toList k).2 = m at *
        generalize lvL 2 s.data.toList k = L at *
        have hl9 : L.length ≤ 800 := by omega
        clear hll hwd hl8
        go_wp2_with (at_builtin; refine wpList_append_lies _ rfl _ _ 22 rfl w.heap.size 2 i0 (.int .i64 0) 1 8 Try.underlying22 hi hz0 hz1 hz2 rfl (by decide) _ _ _ rfl (World.ownsRow.alloc HO.out _) ⟨wr.heap.size, 0, none⟩ 1 1 [.int .i64 (-1)] rfl rfl (c1_int _ _ _) (by intro u hu; simp at hu; subst hu; rfl) (by decide) (by unfold maxLen; omega) (by omega) (by simp; omega) (wr.heap.size + 1) (by simp) ?_)
        intro g1 cap1 w1 hown1 hgrow1 hat1 hlt1
        have O1 : Hid (Own w1 w.heap.size (.slice (some ⟨g1, 0, none⟩) (L.length + 1) cap1) (L ++ [(-1)])) := by
          show Own _ _ _ _
          unfold Own
          rw [List.length_append, intVals_app]; exact hown1
        have BL1 := Lib.hid (below_cons HB.out HB.out.size HO.out hgrow1)
        have CI1 := Lib.hid ((HC.out.alloc _).gb hgrow1 (fun k hk => HV.out k hk))
        have ZZ1 : Hid (w.heap.size + 2 ≤ w1.heap.size) := by show _ ≤ _; have h1 := hgrow1.size; have h2 := HZ.out; simp at h1; omega
        have VB1 : Hid (∀ k, (Value.slice (some ⟨g1, 0, none⟩) (L.length + 1) cap1).ownBlock = some k → k ≠ w.heap.size + 1) := by
          show ∀ k, _
          intro k hk
          simp [Value.ownBlock] at hk
          subst hk
          rcases hat1 with h | h
          · exact HV.out _ h
          · have := HZ.out; omega
        clear hown1 hgrow1 hat1 hlt1
        have hzn := ZZ1.out
        go_wp2_with (at_builtin; refine wpList_append_lies _ rfl _ _ 22 rfl w.heap.size 2 i0 (.int .i64 0) 1 8 Try.underlying22 hi hz0 hz1 hz2 rfl (by decide) _ _ _ rfl (own_len1 O1.out _) ⟨w1.heap.size, 0, none⟩ 1 1 [.int .i64 1] rfl rfl (c1_int _ _ _) (by intro u hu; simp at hu; subst hu; rfl) (by decide) (by unfold maxLen; omega) (by omega) (by simp; omega) (w1.heap.size + 1) (by simp) ?_)
        intro g2 cap2 w2 hown2 hgrow2 hat2 hlt2
        have O2 : Hid (Own w2 w.heap.size (.slice (some ⟨g2, 0, none⟩) ((L.length + 1) + 1) cap2) ((L ++ [(-1)]) ++ [1])) := by
          show Own _ _ _ _
          unfold Own
          rw [List.length_append, List.length_append, intVals_app]; exact hown2
        have BL2 := Lib.hid (below_cons BL1.out BL1.out.size O1.out hgrow2)
        have CI2 := Lib.hid ((CI1.out.alloc _).gb hgrow2 (fun k hk => VB1.out k hk))
        have ZZ2 : Hid (w.heap.size + 2 ≤ w2.heap.size) := by show _ ≤ _; have h1 := hgrow2.size; have h2 := ZZ1.out; simp at h1; omega
        have VB2 : Hid (∀ k, (Value.slice (some ⟨g2, 0, none⟩) ((L.length + 1) + 1) cap2).ownBlock = some k → k ≠ w.heap.size + 1) := by
          show ∀ k, _
          intro k hk
          simp [Value.ownBlock] at hk
          subst hk
          rcases hat2 with h | h
          · exact VB1.out _ h
          · have := ZZ1.out; omega
        clear hown2 hgrow2 hat2 hlt2
        go_wp2_with fail
        go_roundw
        case rel => exact ⟨k + 1, by omega, by go_num, by rw [HL.out]; exact O2.out, by rw [HS.out]; rfl, ⟨rfl, rfl⟩, CI2.out, VB2.out, ZZ2.out, BL2.out⟩
        case measure => simp [intOf]; omega
    · obtain rfl : k = s.size := by omega
      go_wp2_with fail
      go_ret
      exact ⟨_, rfl, HO.out, HB.out⟩

set_option maxRecDepth 100000 in
set_option maxHeartbeats 4000000 in
theorem levelsM_3 (s : ByteArray) (w : World) (hB : isB s.data.toList = true) :
    Calls Try.prog 56 #[.int .i64 3, .string s] w fun e w' => ∃ u, e = .returned u ∧ Own w' w.heap.size u (lvL 3 s.data.toList s.size) ∧ Below w.heap.size w w' := by
  obtain ⟨i0, hi, hz0, hz1, hz2⟩ := info_parts Try.infoInt
  have hsz : s.size ≤ 400 := isB_lenL hB
  have HBF := Lib.hid (fun W => l10Before_any 3 (by decide) W)
  obtain ⟨W1, hW1⟩ : ∃ W1, W1 = (w.alloc (.cells #[] 2)).alloc (.cells #[.int .i64 0, .int .i64 1, .int .i64 0, .int .i64 (-1)] 2) := ⟨_, rfl⟩
  have B1 : Hid (Below w.heap.size w W1) := by show Below _ _ _; rw [hW1]; exact ((Below.refl _ _).alloc (Nat.le_refl _) _).alloc (by simp) _
  have O1 : Hid (Own W1 w.heap.size (.slice (some ⟨w.heap.size, 0, none⟩) 0 0) []) := by
    show Own _ _ _ _
    rw [hW1]
    exact Own.keep (World.ownsRow_made w #[] 0 (Nat.le_refl _) (by decide) rfl) ((Below.refl _ _).alloc (Nat.le_refl _) _)
  have C1 : Hid (Bk W1 (w.heap.size + 1) [.int .i64 0, .int .i64 1, .int .i64 0, .int .i64 (-1)]) := by show Bk _ _ _; rw [hW1]; exact Bk.new _ [.int .i64 0, .int .i64 1, .int .i64 0, .int .i64 (-1)] _ _ (by simp)
  have Z1 : Hid (w.heap.size + 2 ≤ W1.heap.size) := by show _ ≤ _; rw [hW1]; simp
  have V1 : Hid (∀ k, (Value.slice (some ⟨w.heap.size, 0, none⟩) 0 0).ownBlock = some k → k ≠ w.heap.size + 1) := by
    show ∀ k, _
    intro k hk
    simp [Value.ownBlock] at hk
    omega
  have HW1 := Lib.hid hW1
  have HBS : Hid (∀ i (h : i < s.size), s[i] = 48 ∨ s[i] = 49) := fun i h => isB_at hB i h
  clear hW1 hB
  go_enter Try.func56, Try.ntmps56
  go_wp2_with fail
  refine (HBF.out _).mono ?_; rintro e w' ⟨rfl, rfl⟩
  go_wp2_with fail
  go_loopw [5, 6, 7, 8, 10] (fun v la mk at' i wr => ∃ k : Nat, k ≤ s.size ∧ i = .int .i64 k ∧ Own wr w.heap.size v (lvL 3 s.data.toList k) ∧ la = .int .i64 (lvS 3 s.data.toList k).1 ∧ (mk = .int .i64 1 ∧ at' = .int .i64 0) ∧ Bk wr (w.heap.size + 1) [.int .i64 0, .int .i64 1, .int .i64 0, .int .i64 (-1)] ∧ (∀ k, v.ownBlock = some k → k ≠ w.heap.size + 1) ∧ w.heap.size + 2 ≤ wr.heap.size ∧ Below w.heap.size w wr) (fun _ _ _ _ i _ => s.size - (intOf i).toNat)
  case atStart => rw [← HW1.out]; exact ⟨0, Nat.zero_le _, rfl, O1.out, rfl, ⟨rfl, rfl⟩, C1.out, V1.out, Z1.out, B1.out⟩
  case round =>
    obtain ⟨k, hk, rfl, ho, rfl, ⟨rfl, rfl⟩, hc, hv, hz, hb⟩ := hrel
    have HO := Lib.hid ho
    have HC := Lib.hid hc
    have HV := Lib.hid hv
    have HZ := Lib.hid hz
    have HB := Lib.hid hb
    clear ho hc hv hz hb O1 C1 V1 Z1 B1
    by_cases hlt : k < s.size
    · have hk0 : (0 : Int) ≤ (k : Int) := by omega
      have hk1 : (k : Int) < (s.size : Int) := by omega
      obtain ⟨t1, t2⟩ := lvS_tri 3 s.data.toList k
      have hll := lvL_len 3 s.data.toList k
      have hwd := wdK_bd 3
      have hl8 : k * wdK 3 ≤ 800 := Nat.le_trans (Nat.mul_le_mul (show k ≤ 400 by omega) hwd.2) (by decide)
      have HG := Lib.hid (getD_49 s k hlt)
      obtain ⟨A1, cc1, hv1⟩ := own_shape HO.out
      subst hv1
      have hsz2 := HB.out.size
      have hzz := HZ.out
      rcases HBS.out k hlt with h48 | h49
      · have hq : ((s[k].toNat : Int) == 49) = false := by rw [h48]; rfl
        clear h48
        have ha := tri_bd t1
        have w9 : IntKind.i64.wrap (-(lvS 3 s.data.toList k).1) = -(lvS 3 s.data.toList k).1 := IntWalk.i64_in _ (by omega)
        have w8 : IntKind.i64.wrap ((lvS 3 s.data.toList k).1) = (lvS 3 s.data.toList k).1 := IntWalk.i64_in _ (by omega)
        have w7 : IntKind.i64.wrap (- -(lvS 3 s.data.toList k).1) = (lvS 3 s.data.toList k).1 := by rw [Int.neg_neg]; exact w8
        clear t1 t2 ha
        obtain ⟨q1, q2⟩ := lvL_succ (κ := 3) (l := s.data.toList) (k := k) (b := false) (a := (lvS 3 s.data.toList k).1) (m := (lvS 3 s.data.toList k).2) (ls := [(-(lvS 3 s.data.toList k).1), (lvS 3 s.data.toList k).1]) (by rw [HG.out]; exact hq) rfl rfl (by show [sg _ * _, -(sg _ * _)] = _; simp [sg])
        have HL : Hid (lvL 3 s.data.toList (k + 1) = lvL 3 s.data.toList k ++ [(-(lvS 3 s.data.toList k).1)] ++ [(lvS 3 s.data.toList k).1]) := by show _ = _; rw [q1]; simp
        have HS := Lib.hid q2
        clear q1 q2
        generalize (lvS 3 s.data.toList k).1 = a at *
        generalize (lvS 3 s.data.toList k).2 = m at *
        generalize lvL 3 s.data.toList k = L at *
        have hl9 : L.length ≤ 800 := by omega
        clear hll hwd hl8
        go_wp2_with (at_builtin; refine wpList_append_lies _ rfl _ _ 22 rfl w.heap.size 2 i0 (.int .i64 0) 1 8 Try.underlying22 hi hz0 hz1 hz2 rfl (by decide) _ _ _ rfl (World.ownsRow.alloc HO.out _) ⟨wr.heap.size, 0, none⟩ 1 1 [.int .i64 (-a)] rfl rfl (c1_int _ _ _) (by intro u hu; simp at hu; subst hu; rfl) (by decide) (by unfold maxLen; omega) (by omega) (by simp; omega) (wr.heap.size + 1) (by simp) ?_)
        intro g1 cap1 w1 hown1 hgrow1 hat1 hlt1
        have O1 : Hid (Own w1 w.heap.size (.slice (some ⟨g1, 0, none⟩) (L.length + 1) cap1) (L ++ [(-a)])) := by
          show Own _ _ _ _
          unfold Own
          rw [List.length_append, intVals_app]; exact hown1
        have BL1 := Lib.hid (below_cons HB.out HB.out.size HO.out hgrow1)
        have CI1 := Lib.hid ((HC.out.alloc _).gb hgrow1 (fun k hk => HV.out k hk))
        have ZZ1 : Hid (w.heap.size + 2 ≤ w1.heap.size) := by show _ ≤ _; have h1 := hgrow1.size; have h2 := HZ.out; simp at h1; omega
        have VB1 : Hid (∀ k, (Value.slice (some ⟨g1, 0, none⟩) (L.length + 1) cap1).ownBlock = some k → k ≠ w.heap.size + 1) := by
          show ∀ k, _
          intro k hk
          simp [Value.ownBlock] at hk
          subst hk
          rcases hat1 with h | h
          · exact HV.out _ h
          · have := HZ.out; omega
        clear hown1 hgrow1 hat1 hlt1
        have hzn := ZZ1.out
        go_wp2_with (at_builtin; refine wpList_append_lies _ rfl _ _ 22 rfl w.heap.size 2 i0 (.int .i64 0) 1 8 Try.underlying22 hi hz0 hz1 hz2 rfl (by decide) _ _ _ rfl (own_len1 O1.out _) ⟨w1.heap.size, 0, none⟩ 1 1 [.int .i64 a] rfl rfl (c1_int _ _ _) (by intro u hu; simp at hu; subst hu; rfl) (by decide) (by unfold maxLen; omega) (by omega) (by simp; omega) (w1.heap.size + 1) (by simp) ?_)
        intro g2 cap2 w2 hown2 hgrow2 hat2 hlt2
        have O2 : Hid (Own w2 w.heap.size (.slice (some ⟨g2, 0, none⟩) ((L.length + 1) + 1) cap2) ((L ++ [(-a)]) ++ [a])) := by
          show Own _ _ _ _
          unfold Own
          rw [List.length_append, List.length_append, intVals_app]; exact hown2
        have BL2 := Lib.hid (below_cons BL1.out BL1.out.size O1.out hgrow2)
        have CI2 := Lib.hid ((CI1.out.alloc _).gb hgrow2 (fun k hk => VB1.out k hk))
        have ZZ2 : Hid (w.heap.size + 2 ≤ w2.heap.size) := by show _ ≤ _; have h1 := hgrow2.size; have h2 := ZZ1.out; simp at h1; omega
        have VB2 : Hid (∀ k, (Value.slice (some ⟨g2, 0, none⟩) ((L.length + 1) + 1) cap2).ownBlock = some k → k ≠ w.heap.size + 1) := by
          show ∀ k, _
          intro k hk
          simp [Value.ownBlock] at hk
          subst hk
          rcases hat2 with h | h
          · exact VB1.out _ h
          · have := ZZ1.out; omega
        clear hown2 hgrow2 hat2 hlt2
        go_wp2_with fail
        go_roundw
        case rel => exact ⟨k + 1, by omega, by go_num, by rw [HL.out]; exact O2.out, by rw [HS.out]; rfl, ⟨rfl, rfl⟩, CI2.out, VB2.out, ZZ2.out, BL2.out⟩
        case measure => simp [intOf]; omega
      · have hq : ((s[k].toNat : Int) == 49) = true := by rw [h49]; rfl
        clear h49
        have ha := tri_bd t1
        have w9 : IntKind.i64.wrap (-(lvS 3 s.data.toList k).1) = -(lvS 3 s.data.toList k).1 := IntWalk.i64_in _ (by omega)
        have w8 : IntKind.i64.wrap ((lvS 3 s.data.toList k).1) = (lvS 3 s.data.toList k).1 := IntWalk.i64_in _ (by omega)
        have w7 : IntKind.i64.wrap (- -(lvS 3 s.data.toList k).1) = (lvS 3 s.data.toList k).1 := by rw [Int.neg_neg]; exact w8
        clear t1 t2 ha
        obtain ⟨q1, q2⟩ := lvL_succ (κ := 3) (l := s.data.toList) (k := k) (b := true) (a := (lvS 3 s.data.toList k).1) (m := (lvS 3 s.data.toList k).2) (ls := [(lvS 3 s.data.toList k).1, (-(lvS 3 s.data.toList k).1)]) (by rw [HG.out]; exact hq) rfl rfl (by show [sg _ * _, -(sg _ * _)] = _; simp [sg])
        have HL : Hid (lvL 3 s.data.toList (k + 1) = lvL 3 s.data.toList k ++ [(lvS 3 s.data.toList k).1] ++ [(-(lvS 3 s.data.toList k).1)]) := by show _ = _; rw [q1]; simp
        have HS := Lib.hid q2
        clear q1 q2
        generalize (lvS 3 s.data.toList k).1 = a at *
        generalize (lvS 3 s.data.toList k).2 = m at *
        generalize lvL 3 s.data.toList k = L at *
        have hl9 : L.length ≤ 800 := by omega
        clear hll hwd hl8
        go_wp2_with (at_builtin; refine wpList_append_lies _ rfl _ _ 22 rfl w.heap.size 2 i0 (.int .i64 0) 1 8 Try.underlying22 hi hz0 hz1 hz2 rfl (by decide) _ _ _ rfl (World.ownsRow.alloc HO.out _) ⟨wr.heap.size, 0, none⟩ 1 1 [.int .i64 a] rfl rfl (c1_int _ _ _) (by intro u hu; simp at hu; subst hu; rfl) (by decide) (by unfold maxLen; omega) (by omega) (by simp; omega) (wr.heap.size + 1) (by simp) ?_)
        intro g1 cap1 w1 hown1 hgrow1 hat1 hlt1
        have O1 : Hid (Own w1 w.heap.size (.slice (some ⟨g1, 0, none⟩) (L.length + 1) cap1) (L ++ [a])) := by
          show Own _ _ _ _
          unfold Own
          rw [List.length_append, intVals_app]; exact hown1
        have BL1 := Lib.hid (below_cons HB.out HB.out.size HO.out hgrow1)
        have CI1 := Lib.hid ((HC.out.alloc _).gb hgrow1 (fun k hk => HV.out k hk))
        have ZZ1 : Hid (w.heap.size + 2 ≤ w1.heap.size) := by show _ ≤ _; have h1 := hgrow1.size; have h2 := HZ.out; simp at h1; omega
        have VB1 : Hid (∀ k, (Value.slice (some ⟨g1, 0, none⟩) (L.length + 1) cap1).ownBlock = some k → k ≠ w.heap.size + 1) := by
          show ∀ k, _
          intro k hk
          simp [Value.ownBlock] at hk
          subst hk
          rcases hat1 with h | h
          · exact HV.out _ h
          · have := HZ.out; omega
        clear hown1 hgrow1 hat1 hlt1
        have hzn := ZZ1.out
        go_wp2_with (at_builtin; refine wpList_append_lies _ rfl _ _ 22 rfl w.heap.size 2 i0 (.int .i64 0) 1 8 Try.underlying22 hi hz0 hz1 hz2 rfl (by decide) _ _ _ rfl (own_len1 O1.out _) ⟨w1.heap.size, 0, none⟩ 1 1 [.int .i64 (-a)] rfl rfl (c1_int _ _ _) (by intro u hu; simp at hu; subst hu; rfl) (by decide) (by unfold maxLen; omega) (by omega) (by simp; omega) (w1.heap.size + 1) (by simp) ?_)
        intro g2 cap2 w2 hown2 hgrow2 hat2 hlt2
        have O2 : Hid (Own w2 w.heap.size (.slice (some ⟨g2, 0, none⟩) ((L.length + 1) + 1) cap2) ((L ++ [a]) ++ [(-a)])) := by
          show Own _ _ _ _
          unfold Own
          rw [List.length_append, List.length_append, intVals_app]; exact hown2
        have BL2 := Lib.hid (below_cons BL1.out BL1.out.size O1.out hgrow2)
        have CI2 := Lib.hid ((CI1.out.alloc _).gb hgrow2 (fun k hk => VB1.out k hk))
        have ZZ2 : Hid (w.heap.size + 2 ≤ w2.heap.size) := by show _ ≤ _; have h1 := hgrow2.size; have h2 := ZZ1.out; simp at h1; omega
        have VB2 : Hid (∀ k, (Value.slice (some ⟨g2, 0, none⟩) ((L.length + 1) + 1) cap2).ownBlock = some k → k ≠ w.heap.size + 1) := by
          show ∀ k, _
          intro k hk
          simp [Value.ownBlock] at hk
          subst hk
          rcases hat2 with h | h
          · exact VB1.out _ h
          · have := ZZ1.out; omega
        clear hown2 hgrow2 hat2 hlt2
        go_wp2_with fail
        go_roundw
        case rel => exact ⟨k + 1, by omega, by go_num, by rw [HL.out]; exact O2.out, by rw [HS.out]; rfl, ⟨rfl, rfl⟩, CI2.out, VB2.out, ZZ2.out, BL2.out⟩
        case measure => simp [intOf]; omega
    · obtain rfl : k = s.size := by omega
      go_wp2_with fail
      go_ret
      exact ⟨_, rfl, HO.out, HB.out⟩

set_option maxRecDepth 100000 in
set_option maxHeartbeats 4000000 in
theorem levelsM_4 (s : ByteArray) (w : World) (hB : isB s.data.toList = true) :
    Calls Try.prog 56 #[.int .i64 4, .string s] w fun e w' => ∃ u, e = .returned u ∧ Own w' w.heap.size u (lvL 4 s.data.toList s.size) ∧ Below w.heap.size w w' := by
  obtain ⟨i0, hi, hz0, hz1, hz2⟩ := info_parts Try.infoInt
  have hsz : s.size ≤ 400 := isB_lenL hB
  have HBF := Lib.hid (fun W => l10Before_any 4 (by decide) W)
  obtain ⟨W1, hW1⟩ : ∃ W1, W1 = (w.alloc (.cells #[] 2)).alloc (.cells #[.int .i64 0, .int .i64 1, .int .i64 0, .int .i64 (-1)] 2) := ⟨_, rfl⟩
  have B1 : Hid (Below w.heap.size w W1) := by show Below _ _ _; rw [hW1]; exact ((Below.refl _ _).alloc (Nat.le_refl _) _).alloc (by simp) _
  have O1 : Hid (Own W1 w.heap.size (.slice (some ⟨w.heap.size, 0, none⟩) 0 0) []) := by
    show Own _ _ _ _
    rw [hW1]
    exact Own.keep (World.ownsRow_made w #[] 0 (Nat.le_refl _) (by decide) rfl) ((Below.refl _ _).alloc (Nat.le_refl _) _)
  have C1 : Hid (Bk W1 (w.heap.size + 1) [.int .i64 0, .int .i64 1, .int .i64 0, .int .i64 (-1)]) := by show Bk _ _ _; rw [hW1]; exact Bk.new _ [.int .i64 0, .int .i64 1, .int .i64 0, .int .i64 (-1)] _ _ (by simp)
  have Z1 : Hid (w.heap.size + 2 ≤ W1.heap.size) := by show _ ≤ _; rw [hW1]; simp
  have V1 : Hid (∀ k, (Value.slice (some ⟨w.heap.size, 0, none⟩) 0 0).ownBlock = some k → k ≠ w.heap.size + 1) := by
    show ∀ k, _
    intro k hk
    simp [Value.ownBlock] at hk
    omega
  have HW1 := Lib.hid hW1
  have HBS : Hid (∀ i (h : i < s.size), s[i] = 48 ∨ s[i] = 49) := fun i h => isB_at hB i h
  clear hW1 hB
  go_enter Try.func56, Try.ntmps56
  go_wp2_with fail
  refine (HBF.out _).mono ?_; rintro e w' ⟨rfl, rfl⟩
  go_wp2_with fail
  go_loopw [5, 6, 7, 8, 10] (fun v la mk at' i wr => ∃ k : Nat, k ≤ s.size ∧ i = .int .i64 k ∧ Own wr w.heap.size v (lvL 4 s.data.toList k) ∧ la = .int .i64 (lvS 4 s.data.toList k).1 ∧ (mk = .int .i64 (-(lvS 4 s.data.toList k).2) ∧ at' = .int .i64 0 ∧ (lvS 4 s.data.toList k).2 ≠ 0) ∧ Bk wr (w.heap.size + 1) [.int .i64 0, .int .i64 1, .int .i64 0, .int .i64 (-1)] ∧ (∀ k, v.ownBlock = some k → k ≠ w.heap.size + 1) ∧ w.heap.size + 2 ≤ wr.heap.size ∧ Below w.heap.size w wr) (fun _ _ _ _ i _ => s.size - (intOf i).toNat)
  case atStart => rw [← HW1.out]; exact ⟨0, Nat.zero_le _, rfl, O1.out, rfl, ⟨rfl, rfl, by show (-1 : Int) ≠ 0; decide⟩, C1.out, V1.out, Z1.out, B1.out⟩
  case round =>
    obtain ⟨k, hk, rfl, ho, rfl, ⟨rfl, rfl, hm0⟩, hc, hv, hz, hb⟩ := hrel
    have HO := Lib.hid ho
    have HC := Lib.hid hc
    have HV := Lib.hid hv
    have HZ := Lib.hid hz
    have HB := Lib.hid hb
    clear ho hc hv hz hb O1 C1 V1 Z1 B1
    by_cases hlt : k < s.size
    · have hk0 : (0 : Int) ≤ (k : Int) := by omega
      have hk1 : (k : Int) < (s.size : Int) := by omega
      obtain ⟨t1, t2⟩ := lvS_tri 4 s.data.toList k
      have hll := lvL_len 4 s.data.toList k
      have hwd := wdK_bd 4
      have hl8 : k * wdK 4 ≤ 800 := Nat.le_trans (Nat.mul_le_mul (show k ≤ 400 by omega) hwd.2) (by decide)
      have HG := Lib.hid (getD_49 s k hlt)
      obtain ⟨A1, cc1, hv1⟩ := own_shape HO.out
      subst hv1
      have hsz2 := HB.out.size
      have hzz := HZ.out
      rcases HBS.out k hlt with h48 | h49
      · have hq : ((s[k].toNat : Int) == 49) = false := by rw [h48]; rfl
        clear h48
        have ha := tri_bd t2
        have w9 : IntKind.i64.wrap (-(lvS 4 s.data.toList k).2) = -(lvS 4 s.data.toList k).2 := IntWalk.i64_in _ (by omega)
        have w8 : IntKind.i64.wrap ((lvS 4 s.data.toList k).2) = (lvS 4 s.data.toList k).2 := IntWalk.i64_in _ (by omega)
        have w7 : IntKind.i64.wrap (- -(lvS 4 s.data.toList k).2) = (lvS 4 s.data.toList k).2 := by rw [Int.neg_neg]; exact w8
        have HM0 := Lib.hid hm0
        clear t1 t2 ha hm0
        obtain ⟨q1, q2⟩ := lvL_succ (κ := 4) (l := s.data.toList) (k := k) (b := false) (a := (lvS 4 s.data.toList k).1) (m := (lvS 4 s.data.toList k).2) (ls := [0]) (by rw [HG.out]; exact hq) rfl rfl rfl
        have HL : Hid (lvL 4 s.data.toList (k + 1) = lvL 4 s.data.toList k ++ [0]) := by show _ = _; rw [q1]
        have HS := Lib.hid q2
        clear q1 q2
        generalize (lvS 4 s.data.toList k).1 = a at *
        generalize (lvS 4 s.data.toList k).2 = m at *
        generalize lvL 4 s.data.toList k = L at *
        have hl9 : L.length ≤ 800 := by omega
        clear hll hwd hl8
        go_wp2_with (at_builtin; refine wpList_append_lies _ rfl _ _ 22 rfl w.heap.size 2 i0 (.int .i64 0) 1 8 Try.underlying22 hi hz0 hz1 hz2 rfl (by decide) _ _ _ rfl (World.ownsRow.alloc HO.out _) ⟨wr.heap.size, 0, none⟩ 1 1 [.int .i64 0] rfl rfl (c1_int _ _ _) (by intro u hu; simp at hu; subst hu; rfl) (by decide) (by unfold maxLen; omega) (by omega) (by simp; omega) (wr.heap.size + 1) (by simp) ?_)
        intro g1 cap1 w1 hown1 hgrow1 hat1 hlt1
        have O1 : Hid (Own w1 w.heap.size (.slice (some ⟨g1, 0, none⟩) (L.length + 1) cap1) (L ++ [0])) := by
          show Own _ _ _ _
          unfold Own
          rw [List.length_append, intVals_app]; exact hown1
        have BL1 := Lib.hid (below_cons HB.out HB.out.size HO.out hgrow1)
        have CI1 := Lib.hid ((HC.out.alloc _).gb hgrow1 (fun k hk => HV.out k hk))
        have ZZ1 : Hid (w.heap.size + 2 ≤ w1.heap.size) := by show _ ≤ _; have h1 := hgrow1.size; have h2 := HZ.out; simp at h1; omega
        have VB1 : Hid (∀ k, (Value.slice (some ⟨g1, 0, none⟩) (L.length + 1) cap1).ownBlock = some k → k ≠ w.heap.size + 1) := by
          show ∀ k, _
          intro k hk
          simp [Value.ownBlock] at hk
          subst hk
          rcases hat1 with h | h
          · exact HV.out _ h
          · have := HZ.out; omega
        clear hown1 hgrow1 hat1 hlt1
        go_wp2_with fail
        go_roundw
        case rel => exact ⟨k + 1, by omega, by go_num, by rw [HL.out]; exact O1.out, by rw [HS.out]; rfl, by rw [HS.out]; exact ⟨rfl, rfl, HM0.out⟩, CI1.out, VB1.out, ZZ1.out, BL1.out⟩
        case measure => simp [intOf]; omega
      · have hq : ((s[k].toNat : Int) == 49) = true := by rw [h49]; rfl
        clear h49
        have ha := tri_bd t2
        have w9 : IntKind.i64.wrap (-(lvS 4 s.data.toList k).2) = -(lvS 4 s.data.toList k).2 := IntWalk.i64_in _ (by omega)
        have w8 : IntKind.i64.wrap ((lvS 4 s.data.toList k).2) = (lvS 4 s.data.toList k).2 := IntWalk.i64_in _ (by omega)
        have w7 : IntKind.i64.wrap (- -(lvS 4 s.data.toList k).2) = (lvS 4 s.data.toList k).2 := by rw [Int.neg_neg]; exact w8
        have HM0 := Lib.hid hm0
        clear t1 t2 ha hm0
        obtain ⟨q1, q2⟩ := lvL_succ (κ := 4) (l := s.data.toList) (k := k) (b := true) (a := (lvS 4 s.data.toList k).1) (m := (lvS 4 s.data.toList k).2) (ls := [(-(lvS 4 s.data.toList k).2)]) (by rw [HG.out]; exact hq) rfl rfl rfl
        have HL : Hid (lvL 4 s.data.toList (k + 1) = lvL 4 s.data.toList k ++ [(-(lvS 4 s.data.toList k).2)]) := by show _ = _; rw [q1]
        have HS := Lib.hid q2
        clear q1 q2
        generalize (lvS 4 s.data.toList k).1 = a at *
        generalize (lvS 4 s.data.toList k).2 = m at *
        generalize lvL 4 s.data.toList k = L at *
        have hl9 : L.length ≤ 800 := by omega
        clear hll hwd hl8
        go_wp2_with (at_builtin; refine wpList_append_lies _ rfl _ _ 22 rfl w.heap.size 2 i0 (.int .i64 0) 1 8 Try.underlying22 hi hz0 hz1 hz2 rfl (by decide) _ _ _ rfl (World.ownsRow.alloc HO.out _) ⟨wr.heap.size, 0, none⟩ 1 1 [.int .i64 (-m)] rfl rfl (c1_int _ _ _) (by intro u hu; simp at hu; subst hu; rfl) (by decide) (by unfold maxLen; omega) (by omega) (by simp; omega) (wr.heap.size + 1) (by simp) ?_)
        intro g1 cap1 w1 hown1 hgrow1 hat1 hlt1
        have O1 : Hid (Own w1 w.heap.size (.slice (some ⟨g1, 0, none⟩) (L.length + 1) cap1) (L ++ [(-m)])) := by
          show Own _ _ _ _
          unfold Own
          rw [List.length_append, intVals_app]; exact hown1
        have BL1 := Lib.hid (below_cons HB.out HB.out.size HO.out hgrow1)
        have CI1 := Lib.hid ((HC.out.alloc _).gb hgrow1 (fun k hk => HV.out k hk))
        have ZZ1 : Hid (w.heap.size + 2 ≤ w1.heap.size) := by show _ ≤ _; have h1 := hgrow1.size; have h2 := HZ.out; simp at h1; omega
        have VB1 : Hid (∀ k, (Value.slice (some ⟨g1, 0, none⟩) (L.length + 1) cap1).ownBlock = some k → k ≠ w.heap.size + 1) := by
          show ∀ k, _
          intro k hk
          simp [Value.ownBlock] at hk
          subst hk
          rcases hat1 with h | h
          · exact HV.out _ h
          · have := HZ.out; omega
        clear hown1 hgrow1 hat1 hlt1
        go_wp2_with fail
        go_roundw
        case rel => exact ⟨k + 1, by omega, by go_num, by rw [HL.out]; exact O1.out, by rw [HS.out]; rfl, by rw [HS.out]; exact ⟨by show _ = Value.int .i64 (-(if -m = 0 then m else -m)); rw [if_neg (by have := HM0.out; omega), Int.neg_neg], rfl, by show (if -m = 0 then m else -m) ≠ 0; have := HM0.out; split <;> omega⟩, CI1.out, VB1.out, ZZ1.out, BL1.out⟩
        case measure => simp [intOf]; omega
    · obtain rfl : k = s.size := by omega
      go_wp2_with fail
      go_ret
      exact ⟨_, rfl, HO.out, HB.out⟩

set_option maxRecDepth 100000 in
set_option maxHeartbeats 4000000 in
theorem levelsM_5 (s : ByteArray) (w : World) (hB : isB s.data.toList = true) :
    Calls Try.prog 56 #[.int .i64 5, .string s] w fun e w' => ∃ u, e = .returned u ∧ Own w' w.heap.size u (lvL 5 s.data.toList s.size) ∧ Below w.heap.size w w' := by
  obtain ⟨i0, hi, hz0, hz1, hz2⟩ := info_parts Try.infoInt
  have hsz : s.size ≤ 400 := isB_lenL hB
  have HBF := Lib.hid (fun W => l10Before_any 5 (by decide) W)
  obtain ⟨W1, hW1⟩ : ∃ W1, W1 = (w.alloc (.cells #[] 2)).alloc (.cells #[.int .i64 0, .int .i64 1, .int .i64 0, .int .i64 (-1)] 2) := ⟨_, rfl⟩
  have B1 : Hid (Below w.heap.size w W1) := by show Below _ _ _; rw [hW1]; exact ((Below.refl _ _).alloc (Nat.le_refl _) _).alloc (by simp) _
  have O1 : Hid (Own W1 w.heap.size (.slice (some ⟨w.heap.size, 0, none⟩) 0 0) []) := by
    show Own _ _ _ _
    rw [hW1]
    exact Own.keep (World.ownsRow_made w #[] 0 (Nat.le_refl _) (by decide) rfl) ((Below.refl _ _).alloc (Nat.le_refl _) _)
  have C1 : Hid (Bk W1 (w.heap.size + 1) [.int .i64 0, .int .i64 1, .int .i64 0, .int .i64 (-1)]) := by show Bk _ _ _; rw [hW1]; exact Bk.new _ [.int .i64 0, .int .i64 1, .int .i64 0, .int .i64 (-1)] _ _ (by simp)
  have Z1 : Hid (w.heap.size + 2 ≤ W1.heap.size) := by show _ ≤ _; rw [hW1]; simp
  have V1 : Hid (∀ k, (Value.slice (some ⟨w.heap.size, 0, none⟩) 0 0).ownBlock = some k → k ≠ w.heap.size + 1) := by
    show ∀ k, _
    intro k hk
    simp [Value.ownBlock] at hk
    omega
  have HW1 := Lib.hid hW1
  have HBS : Hid (∀ i (h : i < s.size), s[i] = 48 ∨ s[i] = 49) := fun i h => isB_at hB i h
  clear hW1 hB
  go_enter Try.func56, Try.ntmps56
  go_wp2_with fail
  refine (HBF.out _).mono ?_; rintro e w' ⟨rfl, rfl⟩
  go_wp2_with fail
  go_loopw [5, 6, 7, 8, 10] (fun v la mk at' i wr => ∃ k : Nat, k ≤ s.size ∧ i = .int .i64 k ∧ Own wr w.heap.size v (lvL 5 s.data.toList k) ∧ la = .int .i64 (lvS 5 s.data.toList k).1 ∧ (mk = .int .i64 1 ∧ ∃ p : Nat, at' = .int .i64 p ∧ P5 p (lvS 5 s.data.toList k).1 (lvS 5 s.data.toList k).2) ∧ Bk wr (w.heap.size + 1) [.int .i64 0, .int .i64 1, .int .i64 0, .int .i64 (-1)] ∧ (∀ k, v.ownBlock = some k → k ≠ w.heap.size + 1) ∧ w.heap.size + 2 ≤ wr.heap.size ∧ Below w.heap.size w wr) (fun _ _ _ _ i _ => s.size - (intOf i).toNat)
  case atStart => rw [← HW1.out]; exact ⟨0, Nat.zero_le _, rfl, O1.out, rfl, ⟨rfl, 0, rfl, .inl ⟨rfl, rfl, rfl⟩⟩, C1.out, V1.out, Z1.out, B1.out⟩
  case round =>
    obtain ⟨k, hk, rfl, ho, rfl, ⟨rfl, p5, rfl, hp5⟩, hc, hv, hz, hb⟩ := hrel
    have HO := Lib.hid ho
    have HC := Lib.hid hc
    have HV := Lib.hid hv
    have HZ := Lib.hid hz
    have HB := Lib.hid hb
    clear ho hc hv hz hb O1 C1 V1 Z1 B1
    by_cases hlt : k < s.size
    · have hk0 : (0 : Int) ≤ (k : Int) := by omega
      have hk1 : (k : Int) < (s.size : Int) := by omega
      obtain ⟨t1, t2⟩ := lvS_tri 5 s.data.toList k
      have hll := lvL_len 5 s.data.toList k
      have hwd := wdK_bd 5
      have hl8 : k * wdK 5 ≤ 800 := Nat.le_trans (Nat.mul_le_mul (show k ≤ 400 by omega) hwd.2) (by decide)
      have HG := Lib.hid (getD_49 s k hlt)
      obtain ⟨A1, cc1, hv1⟩ := own_shape HO.out
      subst hv1
      have hsz2 := HB.out.size
      have hzz := HZ.out
      rcases HBS.out k hlt with h48 | h49
      · have hq : ((s[k].toNat : Int) == 49) = false := by rw [h48]; rfl
        clear h48
        rcases hp5 with ⟨rfl, ea, em⟩ | ⟨rfl, ea, em⟩ | ⟨rfl, ea, em⟩ | ⟨rfl, ea, em⟩
        · clear t1 t2
          obtain ⟨q1, q2⟩ := lvL_succ (κ := 5) (l := s.data.toList) (k := k) (b := false) (a := 0) (m := (-1)) (ls := [0]) (by rw [HG.out]; exact hq) ea em rfl
          have HL : Hid (lvL 5 s.data.toList (k + 1) = lvL 5 s.data.toList k ++ [0]) := by show _ = _; rw [q1]
          have HS := Lib.hid q2
          clear q1 q2
          rw [ea]
          clear ea em
          have y0 := HC.out.c 0 _ rfl
          generalize lvL 5 s.data.toList k = L at *
          have hl9 : L.length ≤ 800 := by omega
          clear hll hwd hl8
          go_wp2_with (at_builtin; refine wpList_append_lies _ rfl _ _ 22 rfl w.heap.size 2 i0 (.int .i64 0) 1 8 Try.underlying22 hi hz0 hz1 hz2 rfl (by decide) _ _ _ rfl (World.ownsRow.alloc HO.out _) ⟨wr.heap.size, 0, none⟩ 1 1 [.int .i64 0] rfl rfl (c1_int _ _ _) (by intro u hu; simp at hu; subst hu; rfl) (by decide) (by unfold maxLen; omega) (by omega) (by simp; omega) (wr.heap.size + 1) (by simp) ?_)
          intro g1 cap1 w1 hown1 hgrow1 hat1 hlt1
          have O1 : Hid (Own w1 w.heap.size (.slice (some ⟨g1, 0, none⟩) (L.length + 1) cap1) (L ++ [0])) := by
            show Own _ _ _ _
            unfold Own
            rw [List.length_append, intVals_app]; exact hown1
          have BL1 := Lib.hid (below_cons HB.out HB.out.size HO.out hgrow1)
          have CI1 := Lib.hid ((HC.out.alloc _).gb hgrow1 (fun k hk => HV.out k hk))
          have ZZ1 : Hid (w.heap.size + 2 ≤ w1.heap.size) := by show _ ≤ _; have h1 := hgrow1.size; have h2 := HZ.out; simp at h1; omega
          have VB1 : Hid (∀ k, (Value.slice (some ⟨g1, 0, none⟩) (L.length + 1) cap1).ownBlock = some k → k ≠ w.heap.size + 1) := by
            show ∀ k, _
            intro k hk
            simp [Value.ownBlock] at hk
            subst hk
            rcases hat1 with h | h
            · exact HV.out _ h
            · have := HZ.out; omega
          clear hown1 hgrow1 hat1 hlt1
          go_wp2_with fail
          go_roundw
          case rel => exact ⟨k + 1, by omega, by go_num, by rw [HL.out]; exact O1.out, by rw [HS.out]; rfl, by rw [HS.out]; exact ⟨rfl, 0, rfl, .inl ⟨rfl, rfl, rfl⟩⟩, CI1.out, VB1.out, ZZ1.out, BL1.out⟩
          case measure => simp [intOf]; omega
        · clear t1 t2
          obtain ⟨q1, q2⟩ := lvL_succ (κ := 5) (l := s.data.toList) (k := k) (b := false) (a := 1) (m := 1) (ls := [1]) (by rw [HG.out]; exact hq) ea em rfl
          have HL : Hid (lvL 5 s.data.toList (k + 1) = lvL 5 s.data.toList k ++ [1]) := by show _ = _; rw [q1]
          have HS := Lib.hid q2
          clear q1 q2
          rw [ea]
          clear ea em
          have y0 := HC.out.c 1 _ rfl
          generalize lvL 5 s.data.toList k = L at *
          have hl9 : L.length ≤ 800 := by omega
          clear hll hwd hl8
          go_wp2_with (at_builtin; refine wpList_append_lies _ rfl _ _ 22 rfl w.heap.size 2 i0 (.int .i64 0) 1 8 Try.underlying22 hi hz0 hz1 hz2 rfl (by decide) _ _ _ rfl (World.ownsRow.alloc HO.out _) ⟨wr.heap.size, 0, none⟩ 1 1 [.int .i64 1] rfl rfl (c1_int _ _ _) (by intro u hu; simp at hu; subst hu; rfl) (by decide) (by unfold maxLen; omega) (by omega) (by simp; omega) (wr.heap.size + 1) (by simp) ?_)
          intro g1 cap1 w1 hown1 hgrow1 hat1 hlt1
          have O1 : Hid (Own w1 w.heap.size (.slice (some ⟨g1, 0, none⟩) (L.length + 1) cap1) (L ++ [1])) := by
            show Own _ _ _ _
            unfold Own
            rw [List.length_append, intVals_app]; exact hown1
          have BL1 := Lib.hid (below_cons HB.out HB.out.size HO.out hgrow1)
          have CI1 := Lib.hid ((HC.out.alloc _).gb hgrow1 (fun k hk => HV.out k hk))
          have ZZ1 : Hid (w.heap.size + 2 ≤ w1.heap.size) := by show _ ≤ _; have h1 := hgrow1.size; have h2 := HZ.out; simp at h1; omega
          have VB1 : Hid (∀ k, (Value.slice (some ⟨g1, 0, none⟩) (L.length + 1) cap1).ownBlock = some k → k ≠ w.heap.size + 1) := by
            show ∀ k, _
            intro k hk
            simp [Value.ownBlock] at hk
            subst hk
            rcases hat1 with h | h
            · exact HV.out _ h
            · have := HZ.out; omega
          clear hown1 hgrow1 hat1 hlt1
          go_wp2_with fail
          go_roundw
          case rel => exact ⟨k + 1, by omega, by go_num, by rw [HL.out]; exact O1.out, by rw [HS.out]; rfl, by rw [HS.out]; exact ⟨rfl, 1, rfl, .inr (.inl ⟨rfl, rfl, rfl⟩)⟩, CI1.out, VB1.out, ZZ1.out, BL1.out⟩
          case measure => simp [intOf]; omega
        · clear t1 t2
          obtain ⟨q1, q2⟩ := lvL_succ (κ := 5) (l := s.data.toList) (k := k) (b := false) (a := 0) (m := 1) (ls := [0]) (by rw [HG.out]; exact hq) ea em rfl
          have HL : Hid (lvL 5 s.data.toList (k + 1) = lvL 5 s.data.toList k ++ [0]) := by show _ = _; rw [q1]
          have HS := Lib.hid q2
          clear q1 q2
          rw [ea]
          clear ea em
          have y0 := HC.out.c 2 _ rfl
          generalize lvL 5 s.data.toList k = L at *
          have hl9 : L.length ≤ 800 := by omega
          clear hll hwd hl8
          go_wp2_with (at_builtin; refine wpList_append_lies _ rfl _ _ 22 rfl w.heap.size 2 i0 (.int .i64 0) 1 8 Try.underlying22 hi hz0 hz1 hz2 rfl (by decide) _ _ _ rfl (World.ownsRow.alloc HO.out _) ⟨wr.heap.size, 0, none⟩ 1 1 [.int .i64 0] rfl rfl (c1_int _ _ _) (by intro u hu; simp at hu; subst hu; rfl) (by decide) (by unfold maxLen; omega) (by omega) (by simp; omega) (wr.heap.size + 1) (by simp) ?_)
          intro g1 cap1 w1 hown1 hgrow1 hat1 hlt1
          have O1 : Hid (Own w1 w.heap.size (.slice (some ⟨g1, 0, none⟩) (L.length + 1) cap1) (L ++ [0])) := by
            show Own _ _ _ _
            unfold Own
            rw [List.length_append, intVals_app]; exact hown1
          have BL1 := Lib.hid (below_cons HB.out HB.out.size HO.out hgrow1)
          have CI1 := Lib.hid ((HC.out.alloc _).gb hgrow1 (fun k hk => HV.out k hk))
          have ZZ1 : Hid (w.heap.size + 2 ≤ w1.heap.size) := by show _ ≤ _; have h1 := hgrow1.size; have h2 := HZ.out; simp at h1; omega
          have VB1 : Hid (∀ k, (Value.slice (some ⟨g1, 0, none⟩) (L.length + 1) cap1).ownBlock = some k → k ≠ w.heap.size + 1) := by
            show ∀ k, _
            intro k hk
            simp [Value.ownBlock] at hk
            subst hk
            rcases hat1 with h | h
            · exact HV.out _ h
            · have := HZ.out; omega
          clear hown1 hgrow1 hat1 hlt1
          go_wp2_with fail
          go_roundw
          case rel => exact ⟨k + 1, by omega, by go_num, by rw [HL.out]; exact O1.out, by rw [HS.out]; rfl, by rw [HS.out]; exact ⟨rfl, 2, rfl, .inr (.inr (.inl ⟨rfl, rfl, rfl⟩))⟩, CI1.out, VB1.out, ZZ1.out, BL1.out⟩
          case measure => simp [intOf]; omega
        · clear t1 t2
          obtain ⟨q1, q2⟩ := lvL_succ (κ := 5) (l := s.data.toList) (k := k) (b := false) (a := (-1)) (m := (-1)) (ls := [(-1)]) (by rw [HG.out]; exact hq) ea em rfl
          have HL : Hid (lvL 5 s.data.toList (k + 1) = lvL 5 s.data.toList k ++ [(-1)]) := by show _ = _; rw [q1]
          have HS := Lib.hid q2
          clear q1 q2
          rw [ea]
          clear ea em
          have y0 := HC.out.c 3 _ rfl
          generalize lvL 5 s.data.toList k = L at *
          have hl9 : L.length ≤ 800 := by omega
          clear hll hwd hl8
          go_wp2_with (at_builtin; refine wpList_append_lies _ rfl _ _ 22 rfl w.heap.size 2 i0 (.int .i64 0) 1 8 Try.underlying22 hi hz0 hz1 hz2 rfl (by decide) _ _ _ rfl (World.ownsRow.alloc HO.out _) ⟨wr.heap.size, 0, none⟩ 1 1 [.int .i64 (-1)] rfl rfl (c1_int _ _ _) (by intro u hu; simp at hu; subst hu; rfl) (by decide) (by unfold maxLen; omega) (by omega) (by simp; omega) (wr.heap.size + 1) (by simp) ?_)
          intro g1 cap1 w1 hown1 hgrow1 hat1 hlt1
          have O1 : Hid (Own w1 w.heap.size (.slice (some ⟨g1, 0, none⟩) (L.length + 1) cap1) (L ++ [(-1)])) := by
            show Own _ _ _ _
            unfold Own
            rw [List.length_append, intVals_app]; exact hown1
          have BL1 := Lib.hid (below_cons HB.out HB.out.size HO.out hgrow1)
          have CI1 := Lib.hid ((HC.out.alloc _).gb hgrow1 (fun k hk => HV.out k hk))
          have ZZ1 : Hid (w.heap.size + 2 ≤ w1.heap.size) := by show _ ≤ _; have h1 := hgrow1.size; have h2 := HZ.out; simp at h1; omega
          have VB1 : Hid (∀ k, (Value.slice (some ⟨g1, 0, none⟩) (L.length + 1) cap1).ownBlock = some k → k ≠ w.heap.size + 1) := by
            show ∀ k, _
            intro k hk
            simp [Value.ownBlock] at hk
            subst hk
            rcases hat1 with h | h
            · exact HV.out _ h
            · have := HZ.out; omega
          clear hown1 hgrow1 hat1 hlt1
          go_wp2_with fail
          go_roundw
          case rel => exact ⟨k + 1, by omega, by go_num, by rw [HL.out]; exact O1.out, by rw [HS.out]; rfl, by rw [HS.out]; exact ⟨rfl, 3, rfl, .inr (.inr (.inr ⟨rfl, rfl, rfl⟩))⟩, CI1.out, VB1.out, ZZ1.out, BL1.out⟩
          case measure => simp [intOf]; omega
      · have hq : ((s[k].toNat : Int) == 49) = true := by rw [h49]; rfl
        clear h49
        rcases hp5 with ⟨rfl, ea, em⟩ | ⟨rfl, ea, em⟩ | ⟨rfl, ea, em⟩ | ⟨rfl, ea, em⟩
        · clear t1 t2
          obtain ⟨q1, q2⟩ := lvL_succ (κ := 5) (l := s.data.toList) (k := k) (b := true) (a := 0) (m := (-1)) (ls := [1]) (by rw [HG.out]; exact hq) ea em rfl
          have HL : Hid (lvL 5 s.data.toList (k + 1) = lvL 5 s.data.toList k ++ [1]) := by show _ = _; rw [q1]
          have HS := Lib.hid q2
          clear q1 q2
          rw [ea]
          clear ea em
          have y0 := HC.out.c 1 _ rfl
          generalize lvL 5 s.data.toList k = L at *
          have hl9 : L.length ≤ 800 := by omega
          clear hll hwd hl8
          go_wp2_with (at_builtin; refine wpList_append_lies _ rfl _ _ 22 rfl w.heap.size 2 i0 (.int .i64 0) 1 8 Try.underlying22 hi hz0 hz1 hz2 rfl (by decide) _ _ _ rfl (World.ownsRow.alloc HO.out _) ⟨wr.heap.size, 0, none⟩ 1 1 [.int .i64 1] rfl rfl (c1_int _ _ _) (by intro u hu; simp at hu; subst hu; rfl) (by decide) (by unfold maxLen; omega) (by omega) (by simp; omega) (wr.heap.size + 1) (by simp) ?_)
          intro g1 cap1 w1 hown1 hgrow1 hat1 hlt1
          have O1 : Hid (Own w1 w.heap.size (.slice (some ⟨g1, 0, none⟩) (L.length + 1) cap1) (L ++ [1])) := by
            show Own _ _ _ _
            unfold Own
            rw [List.length_append, intVals_app]; exact hown1
          have BL1 := Lib.hid (below_cons HB.out HB.out.size HO.out hgrow1)
          have CI1 := Lib.hid ((HC.out.alloc _).gb hgrow1 (fun k hk => HV.out k hk))
          have ZZ1 : Hid (w.heap.size + 2 ≤ w1.heap.size) := by show _ ≤ _; have h1 := hgrow1.size; have h2 := HZ.out; simp at h1; omega
          have VB1 : Hid (∀ k, (Value.slice (some ⟨g1, 0, none⟩) (L.length + 1) cap1).ownBlock = some k → k ≠ w.heap.size + 1) := by
            show ∀ k, _
            intro k hk
            simp [Value.ownBlock] at hk
            subst hk
            rcases hat1 with h | h
            · exact HV.out _ h
            · have := HZ.out; omega
          clear hown1 hgrow1 hat1 hlt1
          go_wp2_with fail
          go_roundw
          case rel => exact ⟨k + 1, by omega, by go_num, by rw [HL.out]; exact O1.out, by rw [HS.out]; rfl, by rw [HS.out]; exact ⟨rfl, 1, rfl, .inr (.inl ⟨rfl, rfl, rfl⟩)⟩, CI1.out, VB1.out, ZZ1.out, BL1.out⟩
          case measure => simp [intOf]; omega
        · clear t1 t2
          obtain ⟨q1, q2⟩ := lvL_succ (κ := 5) (l := s.data.toList) (k := k) (b := true) (a := 1) (m := 1) (ls := [0]) (by rw [HG.out]; exact hq) ea em rfl
          have HL : Hid (lvL 5 s.data.toList (k + 1) = lvL 5 s.data.toList k ++ [0]) := by show _ = _; rw [q1]
          have HS := Lib.hid q2
          clear q1 q2
          rw [ea]
          clear ea em
          have y0 := HC.out.c 2 _ rfl
          generalize lvL 5 s.data.toList k = L at *
          have hl9 : L.length ≤ 800 := by omega
          clear hll hwd hl8
          go_wp2_with (at_builtin; refine wpList_append_lies _ rfl _ _ 22 rfl w.heap.size 2 i0 (.int .i64 0) 1 8 Try.underlying22 hi hz0 hz1 hz2 rfl (by decide) _ _ _ rfl (World.ownsRow.alloc HO.out _) ⟨wr.heap.size, 0, none⟩ 1 1 [.int .i64 0] rfl rfl (c1_int _ _ _) (by intro u hu; simp at hu; subst hu; rfl) (by decide) (by unfold maxLen; omega) (by omega) (by simp; omega) (wr.heap.size + 1) (by simp) ?_)
          intro g1 cap1 w1 hown1 hgrow1 hat1 hlt1
          have O1 : Hid (Own w1 w.heap.size (.slice (some ⟨g1, 0, none⟩) (L.length + 1) cap1) (L ++ [0])) := by
            show Own _ _ _ _
            unfold Own
            rw [List.length_append, intVals_app]; exact hown1
          have BL1 := Lib.hid (below_cons HB.out HB.out.size HO.out hgrow1)
          have CI1 := Lib.hid ((HC.out.alloc _).gb hgrow1 (fun k hk => HV.out k hk))
          have ZZ1 : Hid (w.heap.size + 2 ≤ w1.heap.size) := by show _ ≤ _; have h1 := hgrow1.size; have h2 := HZ.out; simp at h1; omega
          have VB1 : Hid (∀ k, (Value.slice (some ⟨g1, 0, none⟩) (L.length + 1) cap1).ownBlock = some k → k ≠ w.heap.size + 1) := by
            show ∀ k, _
            intro k hk
            simp [Value.ownBlock] at hk
            subst hk
            rcases hat1 with h | h
            · exact HV.out _ h
            · have := HZ.out; omega
          clear hown1 hgrow1 hat1 hlt1
          go_wp2_with fail
          go_roundw
          case rel => exact ⟨k + 1, by omega, by go_num, by rw [HL.out]; exact O1.out, by rw [HS.out]; rfl, by rw [HS.out]; exact ⟨rfl, 2, rfl, .inr (.inr (.inl ⟨rfl, rfl, rfl⟩))⟩, CI1.out, VB1.out, ZZ1.out, BL1.out⟩
          case measure => simp [intOf]; omega
        · clear t1 t2
          obtain ⟨q1, q2⟩ := lvL_succ (κ := 5) (l := s.data.toList) (k := k) (b := true) (a := 0) (m := 1) (ls := [(-1)]) (by rw [HG.out]; exact hq) ea em rfl
          have HL : Hid (lvL 5 s.data.toList (k + 1) = lvL 5 s.data.toList k ++ [(-1)]) := by show _ = _; rw [q1]
          have HS := Lib.hid q2
          clear q1 q2
          rw [ea]
          clear ea em
          have y0 := HC.out.c 3 _ rfl
          generalize lvL 5 s.data.toList k = L at *
          have hl9 : L.length ≤ 800 := by omega
          clear hll hwd hl8
          go_wp2_with (at_builtin; refine wpList_append_lies _ rfl _ _ 22 rfl w.heap.size 2 i0 (.int .i64 0) 1 8 Try.underlying22 hi hz0 hz1 hz2 rfl (by decide) _ _ _ rfl (World.ownsRow.alloc HO.out _) ⟨wr.heap.size, 0, none⟩ 1 1 [.int .i64 (-1)] rfl rfl (c1_int _ _ _) (by intro u hu; simp at hu; subst hu; rfl) (by decide) (by unfold maxLen; omega) (by omega) (by simp; omega) (wr.heap.size + 1) (by simp) ?_)
          intro g1 cap1 w1 hown1 hgrow1 hat1 hlt1
          have O1 : Hid (Own w1 w.heap.size (.slice (some ⟨g1, 0, none⟩) (L.length + 1) cap1) (L ++ [(-1)])) := by
            show Own _ _ _ _
            unfold Own
            rw [List.length_append, intVals_app]; exact hown1
          have BL1 := Lib.hid (below_cons HB.out HB.out.size HO.out hgrow1)
          have CI1 := Lib.hid ((HC.out.alloc _).gb hgrow1 (fun k hk => HV.out k hk))
          have ZZ1 : Hid (w.heap.size + 2 ≤ w1.heap.size) := by show _ ≤ _; have h1 := hgrow1.size; have h2 := HZ.out; simp at h1; omega
          have VB1 : Hid (∀ k, (Value.slice (some ⟨g1, 0, none⟩) (L.length + 1) cap1).ownBlock = some k → k ≠ w.heap.size + 1) := by
            show ∀ k, _
            intro k hk
            simp [Value.ownBlock] at hk
            subst hk
            rcases hat1 with h | h
            · exact HV.out _ h
            · have := HZ.out; omega
          clear hown1 hgrow1 hat1 hlt1
          go_wp2_with fail
          go_roundw
          case rel => exact ⟨k + 1, by omega, by go_num, by rw [HL.out]; exact O1.out, by rw [HS.out]; rfl, by rw [HS.out]; exact ⟨rfl, 3, rfl, .inr (.inr (.inr ⟨rfl, rfl, rfl⟩))⟩, CI1.out, VB1.out, ZZ1.out, BL1.out⟩
          case measure => simp [intOf]; omega
        · clear t1 t2
          obtain ⟨q1, q2⟩ := lvL_succ (κ := 5) (l := s.data.toList) (k := k) (b := true) (a := (-1)) (m := (-1)) (ls := [0]) (by rw [HG.out]; exact hq) ea em rfl
          have HL : Hid (lvL 5 s.data.toList (k + 1) = lvL 5 s.data.toList k ++ [0]) := by show _ = _; rw [q1]
          have HS := Lib.hid q2
          clear q1 q2
          rw [ea]
          clear ea em
          have y0 := HC.out.c 0 _ rfl
          generalize lvL 5 s.data.toList k = L at *
          have hl9 : L.length ≤ 800 := by omega
          clear hll hwd hl8
          go_wp2_with (at_builtin; refine wpList_append_lies _ rfl _ _ 22 rfl w.heap.size 2 i0 (.int .i64 0) 1 8 Try.underlying22 hi hz0 hz1 hz2 rfl (by decide) _ _ _ rfl (World.ownsRow.alloc HO.out _) ⟨wr.heap.size, 0, none⟩ 1 1 [.int .i64 0] rfl rfl (c1_int _ _ _) (by intro u hu; simp at hu; subst hu; rfl) (by decide) (by unfold maxLen; omega) (by omega) (by simp; omega) (wr.heap.size + 1) (by simp) ?_)
          intro g1 cap1 w1 hown1 hgrow1 hat1 hlt1
          have O1 : Hid (Own w1 w.heap.size (.slice (some ⟨g1, 0, none⟩) (L.length + 1) cap1) (L ++ [0])) := by
            show Own _ _ _ _
            unfold Own
            rw [List.length_append, intVals_app]; exact hown1
          have BL1 := Lib.hid (below_cons HB.out HB.out.size HO.out hgrow1)
          have CI1 := Lib.hid ((HC.out.alloc _).gb hgrow1 (fun k hk => HV.out k hk))
          have ZZ1 : Hid (w.heap.size + 2 ≤ w1.heap.size) := by show _ ≤ _; have h1 := hgrow1.size; have h2 := HZ.out; simp at h1; omega
          have VB1 : Hid (∀ k, (Value.slice (some ⟨g1, 0, none⟩) (L.length + 1) cap1).ownBlock = some k → k ≠ w.heap.size + 1) := by
            show ∀ k, _
            intro k hk
            simp [Value.ownBlock] at hk
            subst hk
            rcases hat1 with h | h
            · exact HV.out _ h
            · have := HZ.out; omega
          clear hown1 hgrow1 hat1 hlt1
          go_wp2_with fail
          go_roundw
          case rel => exact ⟨k + 1, by omega, by go_num, by rw [HL.out]; exact O1.out, by rw [HS.out]; rfl, by rw [HS.out]; exact ⟨rfl, 0, rfl, .inl ⟨rfl, rfl, rfl⟩⟩, CI1.out, VB1.out, ZZ1.out, BL1.out⟩
          case measure => simp [intOf]; omega
    · obtain rfl : k = s.size := by omega
      go_wp2_with fail
      go_ret
      exact ⟨_, rfl, HO.out, HB.out⟩
end Go.Proofs.Ytmhdjimdhcephaa
