/- Contract of the model's l01Great. -/
import Derived.Test.YtnlnoookpcplgacDoorWDec2
import Derived.Test.YtnlnoookpcplgacDoorPd
import Derived.Test.YtnlnoookpcplgacDoorBtw
import Derived.Laws.StructEq
namespace Go.Proofs.YtnlnoookpcplgacDoor
open Go Go.RowKit
set_option linter.unusedVariables false

/-- A text with a sign, or without one. -/
def Lnk (neg : Bool) (l t : List UInt8) : Prop := if neg then l = 45 :: t else l = t ∧ t.head? ≠ some 45
theorem lnk_dec {neg : Bool} {l t : List UInt8} {v : Int} (h : Lnk neg l t) (hv : Lib.itoa v = l) (h0 : -1000000000000000000 ≤ v) (h1 : v ≤ 1000000000000000000) :
    ∃ u : Nat, u ≤ 1000000000000000000 ∧ t = Lib.decDigits u ∧ v = if neg then -(u : Int) else u := by
  by_cases hn : v < 0
  · obtain ⟨u, hu⟩ := Int.eq_ofNat_of_zero_le (show 0 ≤ -v by omega)
    obtain rfl : v = -(u : Int) := by omega
    rw [Lib.itoa_neg u (by omega)] at hv
    cases neg
    · obtain ⟨e, hh⟩ := h
      subst e
      rw [← hv] at hh
      exact absurd rfl hh
    · have e : l = 45 :: t := h
      rw [e] at hv
      injection hv with _ hv
      exact ⟨u, by omega, hv.symm, rfl⟩
  · obtain ⟨u, rfl⟩ := Int.eq_ofNat_of_zero_le (show 0 ≤ v by omega)
    rw [Lib.itoa_nonneg u] at hv
    cases neg
    · obtain ⟨e, hh⟩ := h
      exact ⟨u, by omega, by rw [hv, e], rfl⟩
    · have e : l = 45 :: t := h
      have hd := dig_dec u
      rw [hv, e] at hd
      have := hd 45 (List.mem_cons_self ..)
      unfold isDig at this
      have e : (45 : UInt8).toNat = 45 := rfl
      omega
/-- What is asked of l01Great's answer. -/
def GR (l : List UInt8) (n : Int) (ok : Bool) : Prop :=
  (ok = true → Lib.itoa n = l ∧ -1000000000000000000 ≤ n ∧ n ≤ 1000000000000000000) ∧ (∀ v : Int, -1000000000000000000 ≤ v → v ≤ 1000000000000000000 → Lib.itoa v = l → ok = true ∧ n = v)
theorem GR.no {l : List UInt8} (n : Int) (h : ∀ v : Int, -1000000000000000000 ≤ v → v ≤ 1000000000000000000 → Lib.itoa v = l → False) : GR l n false :=
  ⟨fun e => by (cases e), fun v a b c => (h v a b c).elim⟩
theorem no_len {neg : Bool} {l t : List UInt8} (h : Lnk neg l t) (hl : ¬ (1 ≤ t.length ∧ t.length ≤ 19)) : GR l 0 false :=
  GR.no _ fun v a b c => by
    obtain ⟨u, hu, rfl, -⟩ := lnk_dec h c a b
    exact hl (dec_len u hu)
theorem no_dig {neg : Bool} {l t : List UInt8} (h : Lnk neg l t) (k : Nat) (hk : k < t.length) (hd : ¬ isDig t[k]) : GR l 0 false :=
  GR.no _ fun v a b c => by
    obtain ⟨u, hu, rfl, -⟩ := lnk_dec h c a b
    exact hd (dig_dec u _ (List.getElem_mem hk))
theorem no_big {neg : Bool} {l t : List UInt8} (h : Lnk neg l t) (k : Nat) (hk : k < t.length) (hb : 100000000000000000 < val (t.take k)) : GR l 0 false :=
  GR.no _ fun v a b c => by
    obtain ⟨u, hu, rfl, -⟩ := lnk_dec h c a b
    have := val_take _ k hk
    rw [val_dec] at this
    omega
theorem at_end {neg : Bool} {l t : List UInt8} (h : Lnk neg l t) {n : Int} (hn : n = if neg then -(val t : Int) else val t) : ∀ v : Int, -1000000000000000000 ≤ v → v ≤ 1000000000000000000 → Lib.itoa v = l → n = v := by
  intro v a b c
  obtain ⟨u, hu, rfl, rfl⟩ := lnk_dec h c a b
  rw [hn, val_dec]
theorem gr_out {l : List UInt8} {n : Int} (h : ∀ v : Int, -1000000000000000000 ≤ v → v ≤ 1000000000000000000 → Lib.itoa v = l → n = v) (hr : ¬ (-1000000000000000000 ≤ n ∧ n ≤ 1000000000000000000)) : GR l n false :=
  GR.no _ fun v a b c => by have := h v a b c; omega
theorem bytes_eq {a b : ByteArray} (h : (a == b) = true) : a = b := by
  cases a with | mk a => cases b with | mk b =>
  have h2 : (a == b) = true := h
  exact congrArg ByteArray.mk (eq_of_beq h2)
theorem bytes_beq (a : ByteArray) : (a == a) = true := by
  cases a with | mk a =>
  have h2 : (a == a) = true := beq_self_eq_true a
  exact h2
theorem gr_in {s : ByteArray} {n : Int} (h : ∀ v : Int, -1000000000000000000 ≤ v → v ≤ 1000000000000000000 → Lib.itoa v = s.data.toList → n = v) (h0 : -1000000000000000000 ≤ n) (h1 : n ≤ 1000000000000000000) : GR s.data.toList n ((⟨(Lib.itoa n).toArray⟩ : ByteArray) == s) := by
  refine ⟨fun e => ⟨?_, h0, h1⟩, fun v a b c => ?_⟩
  · have := bytes_eq e
    rw [← this]
  · have hv := h v a b c
    refine ⟨?_, hv⟩
    subst hv
    rw [c]
    have : (⟨s.data.toList.toArray⟩ : ByteArray) = s := by cases s; simp
    rw [this]
    exact bytes_beq s

set_option maxHeartbeats 800000 in
set_option maxRecDepth 100000 in
theorem great_neg (s : ByteArray) (hs : s.size ≤ 1048576) (w : World) (h : 0 < s.size) (h45 : s[0]'h = 45) :
    Calls Tryd.prog 29 #[.string s] w fun e w' => ∃ n ok, e = .returned (.tuple #[.int .i64 n, .bool ok]) ∧ GR s.data.toList n ok ∧ Below w.heap.size w w' := by
  have HL : Hid (Lnk true s.data.toList (s.extract 1 s.size).data.toList) := by
    show _ = _
    have e : s.data.toList = s[0] :: s.data.toList.drop 1 := by
      cases hl : s.data.toList with
      | nil => have : s.data.toList.length = s.size := by simp
               rw [hl] at this; simp at this; omega
      | cons c r =>
        have : s[0] = c := by
          have h2 : s.data.toList[0]'(by rw [hl]; simp) = c := by simp [hl]
          exact h2
        rw [this]; rfl
    rw [e, h45]
    simp
    exact (List.take_of_length_le (by simp)).symm
  have HZ : Hid ((s.extract 1 s.size).data.toList.length = s.size - 1) := by show _ = _; simp
  by_cases hl : 1 ≤ s.size - 1 ∧ s.size - 1 ≤ 19
  · obtain ⟨l1, l2⟩ := hl
    have HS : Hid ((s.extract 1 s.size).size = s.size - 1) := by show _ = _; simp
    obtain ⟨t, ht⟩ : ∃ t, t = s.extract 1 s.size := ⟨_, rfl⟩
    rw [← ht] at HL HZ HS
    have HT := Lib.hid ht
    clear ht
    go_enter Tryd.func29, Tryd.ntmps29
    go_wp2_with fail
    rw [← HT.out]
    go_loopw [5, 6] (fun n i wr => ∃ k : Nat, k ≤ t.size ∧ i = .int .i64 k ∧ n = .int .i64 (val (t.data.toList.take k) : Nat) ∧ val (t.data.toList.take k) ≤ 1000000000000000009 ∧ wr = w) (fun _ i _ => t.size - (intOf i).toNat)
    case atStart => exact ⟨0, Nat.zero_le _, rfl, rfl, Nat.zero_le _, rfl⟩
    case round =>
      obtain ⟨k, hk, rfl, rfl, hv, rfl⟩ := hrel
      by_cases hlt : k < t.size
      · have hkl : k < t.data.toList.length := by simpa using hlt
        have HCd : t.data.toList[k] = t[k] := rfl
        have hk18 : k ≤ 18 := by have := HS.out; omega
        by_cases hd : isDig t[k]
        · by_cases hbig : 100000000000000000 < val (t.data.toList.take k)
          · have HG := Lib.hid (no_big HL.out k hkl hbig)
            obtain ⟨d1, d2⟩ := hd
            have d3 : (48 : Int) ≤ (t[k].toNat : Int) := by omega
            have d4 : (t[k].toNat : Int) ≤ 57 := by omega
            generalize val (t.data.toList.take k) = x at *
            go_wp2_with fail
            go_ret2
            exact ⟨_, _, rfl, HG.out, Below.refl _ _⟩
          · have HN : Hid (10 * val (t.data.toList.take k) + (t[k].toNat - 48) = val (t.data.toList.take (k + 1))) := by
              show _ = _
              rw [List.take_succ_eq_append_getElem hkl, val_snoc, HCd]
            obtain ⟨d1, d2⟩ := hd
            have d3 : (48 : Int) ≤ (t[k].toNat : Int) := by omega
            have d4 : (t[k].toNat : Int) ≤ 57 := by omega
            generalize val (t.data.toList.take k) = x at *
            go_wp2_with fail
            go_roundw
            case rel => exact ⟨k + 1, by omega, by go_num, by rw [← HN.out]; exact congrArg (Value.int .i64) (by omega), by rw [← HN.out]; omega, by first | rfl | trivial⟩
            case measure => simp [intOf]; omega
        · have HG := Lib.hid (no_dig HL.out k hkl (by rw [HCd]; exact hd))
          unfold isDig at hd
          by_cases d1 : t[k].toNat < 48
          · have d3 : (t[k].toNat : Int) < 48 := by omega
            clear hd
            go_wp2_with fail
            go_ret2
            exact ⟨_, _, rfl, HG.out, Below.refl _ _⟩
          · have d2 : 57 < t[k].toNat := by omega
            have d3 : (57 : Int) < (t[k].toNat : Int) := by omega
            have d5 : (48 : Int) ≤ (t[k].toNat : Int) := by omega
            have d6 : 48 ≤ t[k].toNat := by omega
            clear hd d1
            go_wp2_with fail
            go_ret2
            exact ⟨_, _, rfl, HG.out, Below.refl _ _⟩
      · obtain rfl : k = t.size := by omega
        have HE : Hid (∀ v : Int, -1000000000000000000 ≤ v → v ≤ 1000000000000000000 → Lib.itoa v = s.data.toList → -(val t.data.toList : Int) = v) := at_end HL.out rfl
        rw [List.take_of_length_le (by simp)] at hv ⊢
        have hts : t.size < s.size := by have := HS.out; omega
        generalize val t.data.toList = x at *
        by_cases hx : x ≤ 1000000000000000000
        · have hg := gr_in HE.out (by omega) (by omega)
          have HG := Lib.hid hg
          have HD := Lib.hid (fun W => dec_any (-(x : Int)) (by omega) (by omega) W)
          have x1 : (-1000000000000000000 : Int) ≤ -(x : Int) := by omega
          have x2 : -(x : Int) ≤ 1000000000000000000 := by omega
          clear hg
          generalize (⟨(Lib.itoa (-(x : Int))).toArray⟩ : ByteArray) = d at *
          go_wp2_with fail
          refine (l00In_yes _ _ _ _ x1 x2).mono ?_; rintro e w' ⟨rfl, rfl⟩
          go_wp2_with fail
          refine (HD.out _).mono ?_; rintro e w5 ⟨rfl, hb5⟩
          have HB := Lib.hid hb5
          clear hb5
          go_wp2_with fail
          go_ret2
          exact ⟨_, _, rfl, (by rw [← beq_toListBytes]; exact HG.out), HB.out⟩
        · have HG := Lib.hid (gr_out HE.out (by omega))
          have hx2 : ¬ (-1000000000000000000 ≤ -(x : Int) ∧ -(x : Int) ≤ 1000000000000000000) := by omega
          have HX := Lib.hid hx2
          clear hx2
          go_wp2_with fail
          refine (l00In_no _ _ _ _ HX.out).mono ?_; rintro e w' ⟨rfl, rfl⟩
          go_wp2_with fail
          go_ret2
          exact ⟨_, _, rfl, HG.out, Below.refl _ _⟩
  · have HG := Lib.hid (no_len HL.out (by rw [HZ.out]; exact hl))
    by_cases l1 : 1 ≤ s.size - 1
    · have l2 : 19 < s.size - 1 := by omega
      clear hl
      go_enter Tryd.func29, Tryd.ntmps29
      go_wp2_with fail
      go_ret2
      exact ⟨_, _, rfl, HG.out, Below.refl _ _⟩
    · have l2 : s.size - 1 = 0 := by omega
      clear hl l1
      go_enter Tryd.func29, Tryd.ntmps29
      go_wp2_with fail
      go_ret2
      exact ⟨_, _, rfl, HG.out, Below.refl _ _⟩
set_option maxHeartbeats 800000 in
set_option maxRecDepth 100000 in
theorem great_pos (s : ByteArray) (hs : s.size ≤ 1048576) (w : World) (h45 : ∀ h : 0 < s.size, s[0] ≠ 45) :
    Calls Tryd.prog 29 #[.string s] w fun e w' => ∃ n ok, e = .returned (.tuple #[.int .i64 n, .bool ok]) ∧ GR s.data.toList n ok ∧ Below w.heap.size w w' := by
  have HL : Hid (Lnk false s.data.toList s.data.toList) := by
    show _ ∧ _
    refine ⟨rfl, ?_⟩
    cases hl : s.data.toList with
    | nil => simp
    | cons c r =>
      have hz : s.data.toList.length = s.size := by simp
      rw [hl] at hz
      simp at hz
      have h1 := h45 (by omega)
      have h2 : s[0]'(by omega) = c := by
        have h2 : s.data.toList[0]'(by rw [hl]; simp) = c := by simp [hl]
        exact h2
      rw [h2] at h1
      simpa using h1
  have HZ : Hid (s.data.toList.length = s.size) := by show _ = _; simp
  by_cases hl : 1 ≤ s.size ∧ s.size ≤ 19
  · obtain ⟨l1, l2⟩ := hl
    have hs0 : 0 < s.size := by omega
    have h46 : ¬ (s[0].toNat : Int) = 45 := by
      intro e
      refine h45 hs0 (UInt8.toNat_inj.1 ?_)
      have e2 : (45 : UInt8).toNat = 45 := rfl
      omega
    have h47 : ((s[0].toNat : Int) == 45) = false := by simpa using h46
    have h48 : ¬ s[0].toNat = 45 := by omega
    go_enter Tryd.func29, Tryd.ntmps29
    go_wp2_with fail
    go_loopw [5, 6] (fun n i wr => ∃ k : Nat, k ≤ s.size ∧ i = .int .i64 k ∧ n = .int .i64 (val (s.data.toList.take k) : Nat) ∧ val (s.data.toList.take k) ≤ 1000000000000000009 ∧ wr = w) (fun _ i _ => s.size - (intOf i).toNat)
    case atStart => exact ⟨0, Nat.zero_le _, rfl, rfl, Nat.zero_le _, rfl⟩
    case round =>
      obtain ⟨k, hk, rfl, rfl, hv, rfl⟩ := hrel
      by_cases hlt : k < s.size
      · have hkl : k < s.data.toList.length := by simpa using hlt
        have HCd : s.data.toList[k] = s[k] := rfl
        have hk18 : k ≤ 18 := by omega
        by_cases hd : isDig s[k]
        · by_cases hbig : 100000000000000000 < val (s.data.toList.take k)
          · have HG := Lib.hid (no_big HL.out k hkl hbig)
            obtain ⟨d1, d2⟩ := hd
            have d3 : (48 : Int) ≤ (s[k].toNat : Int) := by omega
            have d4 : (s[k].toNat : Int) ≤ 57 := by omega
            generalize val (s.data.toList.take k) = x at *
            go_wp2_with fail
            go_ret2
            exact ⟨_, _, rfl, HG.out, Below.refl _ _⟩
          · have HN : Hid (10 * val (s.data.toList.take k) + (s[k].toNat - 48) = val (s.data.toList.take (k + 1))) := by
              show _ = _
              rw [List.take_succ_eq_append_getElem hkl, val_snoc, HCd]
            obtain ⟨d1, d2⟩ := hd
            have d3 : (48 : Int) ≤ (s[k].toNat : Int) := by omega
            have d4 : (s[k].toNat : Int) ≤ 57 := by omega
            generalize val (s.data.toList.take k) = x at *
            go_wp2_with fail
            go_roundw
            case rel => exact ⟨k + 1, by omega, by go_num, by rw [← HN.out]; exact congrArg (Value.int .i64) (by omega), by rw [← HN.out]; omega, by first | rfl | trivial⟩
            case measure => simp [intOf]; omega
        · have HG := Lib.hid (no_dig HL.out k hkl (by rw [HCd]; exact hd))
          unfold isDig at hd
          by_cases d1 : s[k].toNat < 48
          · have d3 : (s[k].toNat : Int) < 48 := by omega
            clear hd
            go_wp2_with fail
            go_ret2
            exact ⟨_, _, rfl, HG.out, Below.refl _ _⟩
          · have d2 : 57 < s[k].toNat := by omega
            have d3 : (57 : Int) < (s[k].toNat : Int) := by omega
            have d5 : (48 : Int) ≤ (s[k].toNat : Int) := by omega
            have d6 : 48 ≤ s[k].toNat := by omega
            clear hd d1
            go_wp2_with fail
            go_ret2
            exact ⟨_, _, rfl, HG.out, Below.refl _ _⟩
      · obtain rfl : k = s.size := by omega
        have HE : Hid (∀ v : Int, -1000000000000000000 ≤ v → v ≤ 1000000000000000000 → Lib.itoa v = s.data.toList → ((val s.data.toList : Nat) : Int) = v) := at_end HL.out rfl
        rw [List.take_of_length_le (by simp)] at hv ⊢
        generalize val s.data.toList = x at *
        by_cases hx : x ≤ 1000000000000000000
        · have hg := gr_in HE.out (by omega) (by omega)
          have HG := Lib.hid hg
          have HD := Lib.hid (fun W => dec_any ((x : Int)) (by omega) (by omega) W)
          have x1 : (-1000000000000000000 : Int) ≤ (x : Int) := by omega
          have x2 : (x : Int) ≤ 1000000000000000000 := by omega
          clear hg
          generalize (⟨(Lib.itoa ((x : Int))).toArray⟩ : ByteArray) = d at *
          go_wp2_with fail
          refine (l00In_yes _ _ _ _ x1 x2).mono ?_; rintro e w' ⟨rfl, rfl⟩
          go_wp2_with fail
          refine (HD.out _).mono ?_; rintro e w5 ⟨rfl, hb5⟩
          have HB := Lib.hid hb5
          clear hb5
          go_wp2_with fail
          go_ret2
          exact ⟨_, _, rfl, (by rw [← beq_toListBytes]; exact HG.out), HB.out⟩
        · have HG := Lib.hid (gr_out HE.out (by omega))
          have hx2 : ¬ (-1000000000000000000 ≤ (x : Int) ∧ (x : Int) ≤ 1000000000000000000) := by omega
          have HX := Lib.hid hx2
          clear hx2
          go_wp2_with fail
          refine (l00In_no _ _ _ _ HX.out).mono ?_; rintro e w' ⟨rfl, rfl⟩
          go_wp2_with fail
          go_ret2
          exact ⟨_, _, rfl, HG.out, Below.refl _ _⟩
  · have HG := Lib.hid (no_len HL.out (by rw [HZ.out]; exact hl))
    by_cases l1 : 1 ≤ s.size
    · have l2 : 19 < s.size := by omega
      clear hl
      have hs0 : 0 < s.size := by omega
      have h46 : ¬ (s[0].toNat : Int) = 45 := by
        intro e
        refine h45 hs0 (UInt8.toNat_inj.1 ?_)
        have e2 : (45 : UInt8).toNat = 45 := rfl
        omega
      have h47 : ((s[0].toNat : Int) == 45) = false := by simpa using h46
      have h48 : ¬ s[0].toNat = 45 := by omega
      go_enter Tryd.func29, Tryd.ntmps29
      go_wp2_with fail
      go_ret2
      exact ⟨_, _, rfl, HG.out, Below.refl _ _⟩
    · have l2 : s.size = 0 := by omega
      clear hl l1
      go_enter Tryd.func29, Tryd.ntmps29
      go_wp2_with fail
      go_ret2
      exact ⟨_, _, rfl, HG.out, Below.refl _ _⟩

theorem great_any (s : ByteArray) (hs : s.size ≤ 1048576) (w : World) :
    Calls Tryd.prog 29 #[.string s] w fun e w' => ∃ n ok, e = .returned (.tuple #[.int .i64 n, .bool ok]) ∧ GR s.data.toList n ok ∧ Below w.heap.size w w' := by
  by_cases h : ∃ h : 0 < s.size, s[0] = 45
  · obtain ⟨h, h45⟩ := h
    exact great_neg s hs w h h45
  · exact great_pos s hs w fun h0 e => h ⟨h0, e⟩
end Go.Proofs.YtnlnoookpcplgacDoor
