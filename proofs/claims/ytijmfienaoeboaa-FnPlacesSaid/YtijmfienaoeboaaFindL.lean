/- The model's FindBits and both CountBits, and the walks of the laws FnExactFindBits and FnExactCountBits. -/
import Derived.Test.YtijmfienaoeboaaFind
import Derived.Test.YtijmfienaoeboaaBtw
namespace Go.Proofs.Ytijmfienaoeboaa
open Go Go.RowKit
set_option linter.unusedVariables false

theorem find_k {s p : List UInt8} {f k : Nat} (h : findFrom s p f = k) : 0 ≤ Lib.index (s.drop f) p ∧ (f : Int) + Lib.index (s.drop f) p = k := by
  have hg := Lib.index_ge (s.drop f) p
  unfold findFrom at h
  by_cases e : Lib.index (s.drop f) p = -1
  · rw [if_pos e] at h; omega
  · rw [if_neg e] at h; omega
theorem find_m1 {s p : List UInt8} {f : Nat} (h : findFrom s p f = -1) : Lib.index (s.drop f) p = -1 := by
  have hg := Lib.index_ge (s.drop f) p
  unfold findFrom at h
  by_cases e : Lib.index (s.drop f) p = -1
  · exact e
  · rw [if_neg e] at h; omega
theorem cbi_parts {s p : List UInt8} (h : cbi s p = true) : isB s = true ∧ isB p = true ∧ p ≠ [] ∧ s.length ≤ 400 ∧ p.length ≤ 400 := by
  unfold cbi at h
  have h1 := Bool.and_eq_true_iff.1 h
  have h2 := Bool.and_eq_true_iff.1 h1.1
  have h3 := h2.1
  have h4 := h2.2
  unfold isB at h3 h4
  refine ⟨h2.1, h2.2, ?_, of_decide_eq_true (Bool.and_eq_true_iff.1 h3).1, of_decide_eq_true (Bool.and_eq_true_iff.1 h4).1⟩
  intro e
  rw [e] at h1
  simp at h1
theorem index_le (s p : List UInt8) (f : Nat) (hs : s.length ≤ 400) : -1 ≤ Lib.index (s.drop f) p ∧ Lib.index (s.drop f) p ≤ 400 := by
  refine ⟨Lib.index_ge _ _, ?_⟩
  rcases Lib.index_spec (s.drop f) p with ⟨h1, _⟩ | ⟨i, h1, h2, _⟩
  · omega
  · rw [List.length_drop] at h2; omega

theorem findBits_no_impl (s p : ByteArray) (f : Int) (w : World) (hs : s.size ≤ maxLen) (hp : p.size ≤ maxLen) (h : ¬ (cbi s.data.toList p.data.toList = true ∧ 0 ≤ f ∧ f ≤ s.size)) :
    Calls Try.prog 47 #[.string s, .string p, .int .i64 f] w fun e w' => e = .returned (.tuple #[.int .i64 0, .bool false]) ∧ Below w.heap.size w w' := by
  have HS := Lib.hid hs
  have HP := Lib.hid hp
  unfold maxLen at hs hp
  cases hc : cbi s.data.toList p.data.toList
  · clear h
    go_enter Try.func47, Try.ntmps47
    go_wp2_with fail
    refine (canBeIn_any _ _ _ HS.out HP.out).mono ?_; rintro e w1 ⟨rfl, hb1⟩
    go_wp2_with fail
    go_ret2
    exact ⟨rfl, hb1⟩
  · have HR := Lib.hid (show ¬ (0 ≤ f ∧ f ≤ (s.size : Int)) from fun e => h ⟨hc, e⟩)
    clear h
    go_enter Try.func47, Try.ntmps47
    go_wp2_with fail
    refine (canBeIn_any _ _ _ HS.out HP.out).mono ?_; rintro e w1 ⟨rfl, hb1⟩
    go_wp2_with fail
    refine (btw_no _ _ _ _ HR.out).mono ?_; rintro e w' ⟨rfl, rfl⟩
    go_wp2_with fail
    go_ret2
    exact ⟨rfl, hb1⟩

/-- At how many places below k a part begins. -/
def cntO (s p : List UInt8) : Nat → Int
  | 0 => 0
  | k + 1 => cntO s p k + if Lib.occAt s p k = true then 1 else 0
theorem cntO_bd (s p : List UInt8) (k : Nat) : 0 ≤ cntO s p k ∧ cntO s p k ≤ k := by
  induction k with
  | zero => simp [cntO]
  | succ k ih => unfold cntO; split <;> omega
theorem cntO_skip (s p : List UInt8) (f k : Nat) (h : f ≤ k) (hn : ∀ j, f ≤ j → j < k → Lib.occAt s p j = false) : cntO s p k = cntO s p f := by
  induction k with
  | zero => obtain rfl : f = 0 := by omega
            rfl
  | succ k ih =>
    rcases Nat.lt_or_ge f (k + 1) with h1 | h1
    · show cntO s p k + (if Lib.occAt s p k = true then 1 else 0) = cntO s p f
      rw [hn k (by omega) (by omega), if_neg (by decide), ih (by omega) (fun j a b => hn j a (by omega))]; omega
    · obtain rfl : f = k + 1 := by omega
      rfl

def cbMeas (a f : Value) : Nat := match f with | .bool true => 1000 - (intOf a).toNat | _ => 0
theorem cbMeas_less {k x : Int} {b : Bool} (h0 : 0 ≤ k) (h1 : k ≤ 900) (h : b = true → k < x ∧ x ≤ 900) : cbMeas (.int .i64 x) (.bool b) < cbMeas (.int .i64 k) (.bool true) := by
  cases b
  · simp [cbMeas, intOf]; omega
  · have := h rfl
    simp [cbMeas, intOf]; omega
set_option maxRecDepth 100000 in
theorem countBits_impl (s p : ByteArray) (m : Int) (w : World) (hm : w.cell? ⟨0, 0, none⟩ = some (.int .i64 m)) (hc : cbi s.data.toList p.data.toList = true) :
    Calls Try.prog 46 #[.string s, .string p] w fun e w' => e = .returned (.tuple #[.int .i64 (cntO s.data.toList p.data.toList s.size), .bool true]) ∧ Below w.heap.size w w' := by
  obtain ⟨hB1, hB2, hne, hl1, hl2⟩ := cbi_parts hc
  have hs : s.size ≤ 400 := by simpa using hl1
  have hp : p.size ≤ 400 := by simpa using hl2
  have HL1 := Lib.hid hl1
  have HNE := Lib.hid hne
  have HM := Lib.hid hm
  have hm0 := World.block_lt_of_cell? w _ hm
  have HM0 := Lib.hid hm0
  clear hB1 hB2 hl1 hl2 hne hm hm0
  go_enter Try.func46, Try.ntmps46
  go_wp2_with fail
  refine (canBeIn_any _ _ _ (by unfold maxLen; omega) (by unfold maxLen; omega)).mono ?_; rintro e w1 ⟨rfl, hb1⟩
  go_wp2_with fail
  have HC := Lib.hid hc
  clear hc
  obtain ⟨r0, hr0⟩ : ∃ r, Lib.index (s.data.toList.drop 0) p.data.toList = r := ⟨_, rfl⟩
  have hrb := index_le s.data.toList p.data.toList 0 HL1.out
  rw [hr0] at hrb
  have HR0 := Lib.hid hr0
  clear hr0
  have hcell : w1.cell? ⟨0, 0, none⟩ = some (.int .i64 m) := (hb1.cell HM0.out).trans HM.out
  refine (findBits_impl s p 0 m w1 hcell hs hp HC.out (Nat.zero_le _) r0 HR0.out hrb.1 hrb.2).mono ?_; rintro e w2 ⟨rfl, hb2⟩
  have hb12 : Below w.heap.size w w2 := hb1.trans (hb2.mono hb1.size)
  clear hb1 hb2 hcell hrb
  go_wp2_with fail
  go_loopw [6, 7, 8] (fun n at_ fd wr => ∃ (f : Nat) (r : Int), f ≤ s.size ∧ n = .int .i64 (cntO s.data.toList p.data.toList f) ∧ at_ = .int .i64 (fbV f r) ∧ fd = .bool (fbF r) ∧ Hid (Lib.index (s.data.toList.drop f) p.data.toList = r) ∧ Below w.heap.size w wr) (fun n at_ fd _ => cbMeas at_ fd)
  case atStart => exact ⟨0, r0, Nat.zero_le _, rfl, rfl, rfl, HR0, hb12⟩
  case round =>
    obtain ⟨f, r, hf, rfl, rfl, rfl, HR, hb⟩ := hrel
    clear hb12
    obtain ⟨c1, c2⟩ := cntO_bd s.data.toList p.data.toList f
    rcases findFrom_cases s.data.toList p.data.toList f (by simpa using hf) HNE.out with ⟨hf1, hf2⟩ | ⟨k, hk1, hk2, hk3, hk4, hk5⟩
    · have hr := find_m1 hf1
      rw [HR.out] at hr
      have H2 : Hid (fbF r = false) := decide_eq_false (by omega)
      have HE : Hid (cntO s.data.toList p.data.toList s.size = cntO s.data.toList p.data.toList f) := cntO_skip _ _ _ _ hf (fun j h1 _ => hf2 j h1)
      rw [H2.out]
      clear hr hf1 hf2
      go_wp2_with fail
      go_ret2
      exact ⟨ret_ib (by rw [HE.out]) rfl, hb⟩
    · have hr := find_k hk1
      rw [HR.out] at hr
      have H1 : Hid (fbV f r = (k : Int)) := by show _ = _; unfold fbV; rw [if_neg (by omega)]; omega
      have H2 : Hid (fbF r = true) := decide_eq_true hr.1
      have HE : Hid (cntO s.data.toList p.data.toList (k + 1) = cntO s.data.toList p.data.toList f + 1) := by
        show _ = _
        have e := cntO_skip s.data.toList p.data.toList f k hk2 hk5
        show cntO s.data.toList p.data.toList k + (if Lib.occAt s.data.toList p.data.toList k = true then 1 else 0) = _
        rw [hk4, e]; rfl
      have hk3' : k < s.size := by simpa using hk3
      obtain ⟨r1, hr1⟩ : ∃ r, Lib.index (s.data.toList.drop (k + 1)) p.data.toList = r := ⟨_, rfl⟩
      have hrb := index_le s.data.toList p.data.toList (k + 1) HL1.out
      rw [hr1] at hrb
      have HR1 := Lib.hid hr1
      have HKF : Hid (fbF r1 = true → (k : Int) < fbV (k + 1) r1 ∧ fbV (k + 1) r1 ≤ 900) := by
        show _ → _
        intro h
        have h0 : 0 ≤ r1 := of_decide_eq_true h
        unfold fbV
        rw [if_neg (by omega)]
        omega
      rw [H1.out, H2.out]
      clear hr hr1 hk1 hk4 hk5 hk3
      have hcell : wr.cell? ⟨0, 0, none⟩ = some (.int .i64 m) := (hb.cell HM0.out).trans HM.out
      have HCELL := Lib.hid hcell
      clear hcell
      go_wp2_with fail
      refine (findBits_impl s p (k + 1) m wr HCELL.out hs hp HC.out hk3' r1 HR1.out hrb.1 hrb.2).mono ?_; rintro e w3 ⟨rfl, hb3⟩
      have hb4 : Below w.heap.size w w3 := hb.trans (hb3.mono hb.size)
      clear hb3 hb
      go_wp2_with fail
      go_roundw
      case rel => exact ⟨k + 1, r1, by omega, by rw [HE.out], rfl, rfl, HR1, hb4⟩
      case measure => exact cbMeas_less (by omega) (by omega) HKF.out

theorem countBits_no_impl (s p : ByteArray) (w : World) (hs : s.size ≤ maxLen) (hp : p.size ≤ maxLen) (hc : cbi s.data.toList p.data.toList = false) :
    Calls Try.prog 46 #[.string s, .string p] w fun e w' => e = .returned (.tuple #[.int .i64 0, .bool false]) ∧ Below w.heap.size w w' := by
  have HS := Lib.hid hs
  have HP := Lib.hid hp
  clear hs hp
  go_enter Try.func46, Try.ntmps46
  go_wp2_with fail
  refine (canBeIn_any _ _ _ HS.out HP.out).mono ?_; rintro e w1 ⟨rfl, hb1⟩
  go_wp2_with fail
  go_ret2
  exact ⟨rfl, hb1⟩

end Go.Proofs.Ytijmfienaoeboaa
