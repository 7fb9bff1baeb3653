/- The model's CheckBits, AddCheck, HasCheck. -/
import Derived.Test.YtkgfmpkpeipddabDoorCkm
namespace Go.Proofs.YtkgfmpkpeipddabDoor
open Go Go.RowKit
set_option linter.unusedVariables false

/-- The number of a text's bits; its check's remainder and bits. -/
def nbl (l : List UInt8) : Nat := nbits (btN l) 0
def rmN (P : Nat) (l : List UInt8) : Nat := rd P (Nat.log2 P) (nbl l * 2 ^ Nat.log2 P)
def cbL (P : Nat) (l : List UInt8) : List UInt8 := digs (rmN P l : Int) (Nat.log2 P) (Nat.log2 P)
theorem cbL_len (P : Nat) (l : List UInt8) : (cbL P l).length = Nat.log2 P := digs_length ..
theorem ck_nat {p : Int} (h : ckB p = true) : ∃ P : Nat, p = P ∧ 2 ≤ P ∧ P < 131072 ∧ Deg P (Nat.log2 P) ∧ Nat.log2 P ≤ 16 ∧ 1 ≤ Nat.log2 P := by
  have hp := of_decide_eq_true h
  obtain ⟨P, rfl⟩ := Int.eq_ofNat_of_zero_le (show 0 ≤ p by omega)
  have hg := deg_log (n := P) (by omega)
  refine ⟨P, rfl, by omega, by omega, hg, ?_, hg.one⟩
  rcases Nat.lt_or_ge (Nat.log2 P) 17 with h1 | h1
  · omega
  · have := Nat.pow_le_pow_right (show 0 < 2 by omega) h1
    have := hg.lo
    omega
set_option maxRecDepth 100000 in
set_option maxHeartbeats 1000000 in
theorem l08Sum_any (P : Nat) (s : ByteArray) (w : World) (h1 : 2 ≤ P) (h2 : P < 131072) (h16 : Nat.log2 P ≤ 16) (hs : isB s.data.toList = true) :
    Calls Tryd.prog 33 #[.int .i64 (P : Int), .string s] w fun e w' => e = .returned (.string ⟨(cbL P s.data.toList).toArray⟩) ∧ Below w.heap.size w w' := by
  obtain ⟨i0, hi, hz0, hz1, hz2⟩ := info_parts Tryd.infoByte
  have hg := deg_log h1
  have HDG := Lib.hid (fun W => l08Degree_any P W (by omega) h2)
  have HRS := Lib.hid (fun W => l08Rest_any P (Nat.log2 P) s W hg h16 hs)
  have HNX := Lib.hid (fun r W hr => l08Next_any P (Nat.log2 P) r 0 W hg h16 hr (by omega))
  have HLT := Lib.hid (fun n => rd_lt hg n)
  have HST : Hid (∀ k, nxR P (Nat.log2 P) (rd P (Nat.log2 P) (nbl s.data.toList * 2 ^ k)) 0 = rd P (Nat.log2 P) (nbl s.data.toList * 2 ^ (k + 1))) := by
    show ∀ k, _
    intro k
    rw [← rd_two _ _ _ _ (by omega), Nat.pow_succ, Nat.add_zero, Nat.mul_comm 2, Nat.mul_assoc]
  have HZ : Hid (rd P (Nat.log2 P) (nbits (btN s.data.toList) 0) = rd P (Nat.log2 P) (nbl s.data.toList * 2 ^ 0)) := by show _ = _; rw [Nat.pow_zero, Nat.mul_one]; rfl
  have hcb : cbL P s.data.toList = digs ((rd P (Nat.log2 P) (nbl s.data.toList * 2 ^ Nat.log2 P) : Nat) : Int) (Nat.log2 P) (Nat.log2 P) := rfl
  have h65 : Hid (∀ n, rd P (Nat.log2 P) n < 65536) := by
    show ∀ n, _
    intro n
    have a := rd_lt hg n
    have b : 2 ^ Nat.log2 P ≤ 65536 := Nat.pow_le_pow_right (by omega) h16
    omega
  rw [hcb]
  rw [HZ.out] at HRS
  obtain ⟨D, hD⟩ : ∃ D, D = Nat.log2 P := ⟨_, rfl⟩
  rw [← hD] at HDG HRS HNX HLT HST h65 h16 ⊢
  generalize nbl s.data.toList = N at *
  clear hcb hg hs h1 h2 hD HZ
  go_enter Tryd.func33, Tryd.ntmps33
  go_wp2_with fail
  refine (HDG.out _).mono ?_; rintro e w' ⟨rfl, rfl⟩
  go_wp2_with fail
  refine (HRS.out _).mono ?_; rintro e w' ⟨rfl, rfl⟩
  go_wp2_with fail
  go_loopw [6, 7] (fun r i wr => ∃ k : Nat, k ≤ D ∧ i = .int .i64 k ∧ r = .int .i64 ((rd P D (N * 2 ^ k) : Nat) : Int) ∧ wr = w) (fun _ i _ => D - (intOf i).toNat)
  case atStart => exact ⟨0, Nat.zero_le _, rfl, by rw [Nat.pow_zero, Nat.mul_one], rfl⟩
  case round =>
    obtain ⟨k, hk, rfl, rfl, rfl⟩ := hrel
    by_cases hlt : k < D
    · have hk0 : (0 : Int) ≤ (k : Int) := by omega
      have hk1 : (k : Int) < (D : Int) := by omega
      have HT := Lib.hid (HNX.out _ wr (HLT.out (N * 2 ^ k)))
      rw [HST.out] at HT
      obtain ⟨R1, hR1⟩ : ∃ R1, R1 = rd P D (N * 2 ^ (k + 1)) := ⟨_, rfl⟩
      rw [← hR1] at HT
      have HR := Lib.hid hR1
      clear hR1
      generalize rd P D (N * 2 ^ k) = R0 at *
      go_wp2_with fail
      refine HT.out.mono ?_; rintro e w' ⟨rfl, rfl⟩
      go_wp2_with fail
      go_roundw
      case rel => exact ⟨k + 1, by omega, by go_num, by rw [HR.out], trivial⟩
      case measure => simp [intOf]; omega
    · obtain rfl : k = D := by omega
      have hX := h65.out (N * 2 ^ k)
      clear HST HLT HNX HDG HRS h65
      obtain ⟨X, hXE⟩ : ∃ X, X = rd P k (N * 2 ^ k) := ⟨_, rfl⟩
      rw [← hXE] at hX ⊢
      have HXE := Lib.hid hXE
      clear hXE
      obtain ⟨w, hw0⟩ : ∃ w, w = wr := ⟨_, rfl⟩
      subst hw0
      have er : IntKind.i64.wrap (X : Int) = (X : Int) := i64_wn X (by omega)
      go_wp2_with fail
      go_loopw [8, 9] (fun v i wr => ∃ j : Nat, j ≤ k ∧ i = .int .i64 ((k : Int) - 1 - j) ∧ wr.ownsRow w.heap.size 5 1 v j (byteVals (digs (X : Int) k j)) ∧ Below w.heap.size w wr) (fun _ i _ => (intOf i + 1).toNat)
      case atStart => exact ⟨0, Nat.zero_le _, by simp, World.ownsRow_made w #[] 0 (Nat.le_refl _) (by decide) rfl, (Below.refl _ _).alloc (Nat.le_refl _) _⟩
      case round =>
        obtain ⟨j, hj, rfl, hown, hb⟩ := hrel
        by_cases hlt2 : j < k
        · have ha := i64_and1 ((X : Int) / 2 ^ (k - 1 - j))
          have hq0 : 0 ≤ (X : Int) / 2 ^ (k - 1 - j) % 2 := Int.emod_nonneg _ (by decide)
          have hq1 : (X : Int) / 2 ^ (k - 1 - j) % 2 ≤ 1 := by omega
          have HD := Lib.hid (dg_val (X : Int) (k - 1 - j))
          go_wp2_with (at_builtin; refine wpList_append_own _ rfl _ _ 32 rfl w.heap.size 5 i0 (.int .u8 0) 1 1 Tryd.underlying32 hi hz0 hz1 hz2 rfl (by decide) _ _ _ rfl (hown.alloc _) ⟨wr.heap.size, 0, none⟩ 1 1 [.int .u8 (48 + (X : Int) / 2 ^ (k - 1 - j) % 2)] rfl rfl ?c1 ?c2 ?c3 ?c4 ?c5 ?_)
          case c1 => exact c1_one _ _ _
          case c2 => intro u hu; simp at hu; subst hu; rfl
          case c3 => unfold maxLen; omega
          case c4 => omega
          case c5 => have := hb.size; simp; omega
          intro v' w1 hown' hgrow _
          have hb1 := below_app hb hb.size hown hgrow
          rw [← HD.out, byteVals_snoc, ← digs_succ] at hown'
          clear hgrow hown hb ha hq0 hq1 HD
          go_wp2_with fail
          go_roundw
          case rel => exact ⟨j + 1, by omega, by go_num, hown', hb1⟩
          case measure => simp [intOf]; omega
        · obtain rfl : j = k := by omega
          have hcv := conv_own hown
          have hlt3 : ¬ (0 : Int) ≤ (j : Int) - 1 - j := by omega
          go_wp2_with fail
          go_ret
          exact ⟨by rw [← HXE.out]; rfl, hb⟩
/-- What CheckBits answers. -/
def ckOk (p : Int) (l : List UInt8) : Bool := ckB p && isB l
def cbV (p : Int) (l : List UInt8) : ByteArray := if ckOk p l then ⟨(cbL p.toNat l).toArray⟩ else ⟨#[]⟩
theorem cb_no {p : Int} {l : List UInt8} (h : ckOk p l = false) : cbV p l = ⟨#[]⟩ := by unfold cbV; rw [h]; rfl
theorem cb_yes {p : Int} {l : List UInt8} (h : ckOk p l = true) : cbV p l = ⟨(cbL p.toNat l).toArray⟩ := by unfold cbV; rw [h]; rfl
set_option maxHeartbeats 400000 in
theorem checkBits_spec (p : Int) (s : ByteArray) (w : World) (hs : s.size ≤ maxLen) :
    Calls Tryd.prog 12 #[.int .i64 p, .string s] w fun e w' => e = .returned (.tuple #[.string (cbV p s.data.toList), .bool (ckOk p s.data.toList)]) ∧ Below w.heap.size w w' := by
  have HC := Lib.hid (fun W => l08Check_any p W)
  have HT := Lib.hid (fun W => l01Bits_any s W hs)
  cases g0 : ckB p
  · have hb : ckOk p s.data.toList = false := by unfold ckOk; rw [g0]; rfl
    rw [cb_no hb, hb]
    rw [g0] at HC
    clear g0 hb hs
    go_enter Tryd.func12, Tryd.ntmps12
    go_wp2_with fail
    refine (HC.out _).mono ?_; rintro e w' ⟨rfl, rfl⟩
    go_wp2_with fail
    go_ret2
    exact ⟨rfl, Below.refl _ _⟩
  · rw [g0] at HC
    cases g1 : isB s.data.toList
    · have hb : ckOk p s.data.toList = false := by unfold ckOk; rw [g0, g1]; rfl
      rw [cb_no hb, hb]
      rw [g1] at HT
      clear g0 g1 hb hs
      go_enter Tryd.func12, Tryd.ntmps12
      go_wp2_with fail
      refine (HC.out _).mono ?_; rintro e w' ⟨rfl, rfl⟩
      go_wp2_with fail
      refine (HT.out _).mono ?_; rintro e w' ⟨rfl, rfl⟩
      go_wp2_with fail
      go_ret2
      exact ⟨rfl, Below.refl _ _⟩
    · have hb : ckOk p s.data.toList = true := by unfold ckOk; rw [g0, g1]; rfl
      rw [cb_yes hb, hb]
      rw [g1] at HT
      obtain ⟨P, rfl, p1, p2, -, p4, -⟩ := ck_nat g0
      rw [Int.toNat_natCast]
      have HS := Lib.hid (fun W => l08Sum_any P s W p1 p2 p4 g1)
      clear g0 g1 hb hs p1 p2 p4
      go_enter Tryd.func12, Tryd.ntmps12
      go_wp2_with fail
      refine (HC.out _).mono ?_; rintro e w' ⟨rfl, rfl⟩
      go_wp2_with fail
      refine (HT.out _).mono ?_; rintro e w' ⟨rfl, rfl⟩
      go_wp2_with fail
      refine (HS.out _).mono ?_; rintro e w1 ⟨rfl, hb1⟩
      have B1 := Lib.hid hb1
      clear hb1
      go_wp2_with fail
      go_ret2
      exact ⟨rfl, B1.out⟩
end Go.Proofs.YtkgfmpkpeipddabDoor
