/- Several texts in one: Bursts: what is not missed; powers and the order (plain). | The walk of the law FnBursts. | For all bytes, the law FnBursts returns true and leaves its arguments as they were: the row, and its tied card. -/
import Derived.Test.YtnpigefbdadjfaaDoorGfP
import Derived.Test.YtnpigefbdadjfaaDoorOrP
import Derived.Test.YtnpigefbdadjfaaDoorChP
import Derived.Test.YtnpigefbdadjfaaDoorTzb
import Derived.Test.YtnpigefbdadjfaaDoorFnh
import Derived.Test.YtnpigefbdadjfaaDoorCko
import Derived.Test.YtnpigefbdadjfaaDoorErv
import Derived.Deep.RegionHeld3
import Derived.Test.YtnpigefbdadjfaaDoorRows
import Derived.Test.YtnpigefbdadjfaaDoorCards
import Derived.Test.YtnpigefbdadjfaaDoorTie
import Derived.Test.YtnpigefbdadjfaaDoorSrc
import Derived.Carry
import Derived.ProofKit
import Derived.LaidMore
import Derived.OpenShut
import Derived.ShutString
import Derived.ChangeOld
import Derived.Below
import Derived.Stop.Joined
import Derived.Stop.LaidErr
import Derived.Lib.LaidTab
import Derived.SevenTiedAt
import Derived.Lib.SmallJoins
namespace Go.Proofs.YtnpigefbdadjfaaDoor

theorem nxR_mul (q e t a : Nat) (_ha : a < 2 ^ e) : nxR (q * 2 ^ t) (e + t) (a * 2 ^ t) 0 = nxR q e a 0 * 2 ^ t := by
  have h1 : 2 * (a * 2 ^ t) + 0 = 2 ^ t * (2 * a) + 0 := by rw [Nat.add_zero, Nat.add_zero, Nat.mul_comm a, Nat.mul_left_comm]
  have h2 : (2 * (a * 2 ^ t) + 0).testBit (e + t) = (2 * a + 0).testBit e := by
    rw [h1, Nat.testBit_two_pow_mul_add _ (Nat.two_pow_pos t), if_neg (by omega), Nat.add_sub_cancel, Nat.add_zero]
  unfold nxR
  rw [h2]
  by_cases h : (2 * a + 0).testBit e = true
  · rw [if_pos h, if_pos h]
    have hm : ((2 * a + 0) ^^^ q) * 2 ^ t = (2 * a + 0) * 2 ^ t ^^^ q * 2 ^ t := by
      rw [← Nat.shiftLeft_eq, Nat.shiftLeft_xor_distrib, Nat.shiftLeft_eq, Nat.shiftLeft_eq]
    rw [hm]
    congr 1
    rw [Nat.add_zero, Nat.add_zero, Nat.mul_assoc]
  · rw [if_neg h, if_neg h, Nat.add_zero, Nat.add_zero, Nat.mul_assoc]
theorem rd_mul {q e : Nat} (hq : Deg q e) (t : Nat) (hP : Deg (q * 2 ^ t) (e + t)) (x : Nat) (hx : x < 2 ^ e) : ∀ j, rd (q * 2 ^ t) (e + t) (x * 2 ^ (t + j)) = rd q e (x * 2 ^ j) * 2 ^ t
  | 0 => by
    rw [Nat.add_zero, Nat.pow_zero, Nat.mul_one, rd_small hq x hx]
    refine rd_small hP _ ?_
    rw [Nat.pow_add]
    exact Nat.mul_lt_mul_of_pos_right hx (Nat.two_pow_pos t)
  | j + 1 => by
    have e1 : x * 2 ^ (t + (j + 1)) = 2 * (x * 2 ^ (t + j)) + 0 := by rw [← Nat.add_assoc, Nat.pow_succ, Nat.add_zero, ← Nat.mul_assoc, Nat.mul_comm]
    have e2 : x * 2 ^ (j + 1) = 2 * (x * 2 ^ j) + 0 := by rw [Nat.pow_succ, Nat.add_zero, ← Nat.mul_assoc, Nat.mul_comm]
    rw [e1, e2, rd_two _ _ _ _ (by omega), rd_two _ _ _ _ (by omega), rd_mul hq t hP x hx j, nxR_mul _ _ _ _ (rd_lt hq _)]
theorem rd_odd {q e : Nat} (hq : Deg q e) (ho : q % 2 = 1) (x : Nat) (hx : x < 2 ^ e) (h0 : x ≠ 0) : ∀ j, rd q e (x * 2 ^ j) ≠ 0
  | 0 => by rw [Nat.pow_zero, Nat.mul_one, rd_small hq x hx]; exact h0
  | j + 1 => by
    have e2 : x * 2 ^ (j + 1) = 2 * (x * 2 ^ j) + 0 := by rw [Nat.pow_succ, Nat.add_zero, ← Nat.mul_assoc, Nat.mul_comm]
    rw [e2, rd_two _ _ _ _ (by omega)]
    intro h
    exact rd_odd hq ho x hx h0 j (nxR_inj hq ho _ 0 (rd_lt hq _) (Nat.two_pow_pos e) (by rw [h, nxR_zero]))
/-- A short burst is not missed. -/
theorem burst_seen {P : Nat} (hP : 2 ≤ P) (x n z : Nat) (hn : n < smN P) (hx : x < 2 ^ n) (h0 : x ≠ 0) : rd P (Nat.log2 P) (x * 2 ^ z) ≠ 0 := by
  obtain ⟨t, q, ho, rfl⟩ := odd_part P (by omega)
  obtain ⟨s1, s2⟩ := sm_parts t q ho
  rw [s1] at hn
  have hdp := deg_log hP
  rw [s2] at hdp ⊢
  have hxe : x < 2 ^ Nat.log2 q := Nat.lt_of_lt_of_le hx (Nat.pow_le_pow_right (by omega) (by omega))
  by_cases hq1 : q = 1
  · subst hq1
    have hl : Nat.log2 1 = 0 := by decide
    rw [hl] at hxe
    have : x = 0 := by simpa using hxe
    exact absurd this h0
  · have hq := deg_log (n := q) (by omega)
    by_cases hz : z < t
    · rw [rd_small hdp _ (by
        rw [Nat.pow_add]
        exact Nat.lt_of_lt_of_le (Nat.mul_lt_mul_of_pos_right hxe (Nat.two_pow_pos z)) (Nat.mul_le_mul_left _ (Nat.pow_le_pow_right (by omega) (by omega))))]
      have := Nat.two_pow_pos z
      intro e
      rcases Nat.mul_eq_zero.1 e with h | h
      · exact h0 h
      · omega
    · obtain ⟨j, rfl⟩ := Nat.exists_eq_add_of_le (show t ≤ z by omega)
      rw [rd_mul hq t hdp x hxe j]
      have := Nat.two_pow_pos t
      intro e
      rcases Nat.mul_eq_zero.1 e with h | h
      · exact rd_odd hq ho x hxe h0 j h
      · omega
theorem rd_period {p d : Nat} (h : Deg p d) (o : Nat) (ho : rd p d (2 ^ o) = 1) (a : Nat) : rd p d (2 ^ (a + o)) = rd p d (2 ^ a) := by
  have := rd_shift h (2 ^ o) a 0 (Nat.two_pow_pos a)
  rw [ho, Nat.one_mul, Nat.add_zero, Nat.add_zero, ← Nat.pow_add, Nat.add_comm o a] at this
  exact this.symm
theorem rd_mod {p d : Nat} (h : Deg p d) (o : Nat) (ho : rd p d (2 ^ o) = 1) (m : Nat) : ∀ k, rd p d (2 ^ (m + o * k)) = rd p d (2 ^ m)
  | 0 => by rw [Nat.mul_zero, Nat.add_zero]
  | k + 1 => by rw [Nat.mul_succ, ← Nat.add_assoc, rd_period h o ho, rd_mod h o ho m k]
/-- Two bits apart are missed just where their distance is whole orders. -/
theorem two_missed {p d : Nat} (h : Deg p d) (ho : p % 2 = 1) (far : Nat) (hf : 1 ≤ far) : decide (rd p d (2 ^ far + 1) = 0) = decide (far % ordN p d = 0) := by
  obtain ⟨o1, o2, o3, o4⟩ := ord_facts h ho
  have e1 : 2 ^ far + 1 = 2 ^ far ^^^ 1 := by
    obtain ⟨f, rfl⟩ := Nat.exists_eq_add_of_le hf
    have := xor_twice (2 ^ f) 0 0 1 (by omega) (by omega)
    rw [Nat.xor_zero, Nat.mul_zero, Nat.zero_add, Nat.add_zero] at this
    rw [Nat.add_comm 1 f, Nat.pow_succ, Nat.mul_comm (2 ^ f) 2]
    exact this
  have e2 : rd p d 1 = 1 := rd_one h
  rw [e1, rd_x h, e2]
  have hm : rd p d (2 ^ far) = rd p d (2 ^ (far % ordN p d)) := by
    have := rd_mod h (ordN p d) o3 (far % ordN p d) (far / ordN p d)
    rw [Nat.mod_add_div] at this
    exact this
  rw [hm]
  have hlt := Nat.mod_lt far (show 0 < ordN p d by omega)
  by_cases h0 : far % ordN p d = 0
  · rw [h0, decide_eq_true rfl, decide_eq_true]
    rw [rd_one h]; rfl
  · rw [decide_eq_false h0, decide_eq_false]
    intro e
    have := congrArg (· ^^^ 1) e
    simp only [Nat.xor_assoc, Nat.xor_self, Nat.xor_zero, Nat.zero_xor] at this
    exact o4 _ (by omega) hlt this
end Go.Proofs.YtnpigefbdadjfaaDoor

namespace Go.Proofs.YtnpigefbdadjfaaDoor
open Go Go.RowKit
set_option linter.unusedVariables false

theorem nbl_zeros (a : List UInt8) (y : Nat) : nbl (a ++ List.replicate y 48) = nbl a * 2 ^ y := by
  induction y with
  | zero => rw [List.replicate_zero, List.append_nil, Nat.pow_zero, Nat.mul_one]
  | succ y ih => rw [List.replicate_succ', ← List.append_assoc, nbl_snoc, ih, Nat.pow_succ]; show 2 * (nbl a * 2 ^ y) + 0 = nbl a * (2 ^ y * 2); rw [Nat.add_zero, Nat.mul_comm 2, Nat.mul_assoc]
theorem inR_zeros (y : Nat) : inR 48 49 (List.replicate y 48) = true := by
  unfold inR; rw [List.all_eq_true]; intro x hx; rw [List.eq_of_mem_replicate hx]; decide
theorem inR_app {a b : List UInt8} (ha : inR 48 49 a = true) (hb : inR 48 49 b = true) : inR 48 49 (a ++ b) = true := by
  unfold inR at *; rw [List.all_append, ha, hb]; rfl
theorem sm_le {P : Nat} (hP : 2 ≤ P) : 1 ≤ smN P ∧ smN P ≤ Nat.log2 P + 1 := by
  obtain ⟨t, q, ho, rfl⟩ := odd_part P (by omega)
  obtain ⟨s1, s2⟩ := sm_parts t q ho
  rw [s1, s2]; omega

set_option maxHeartbeats 40000000 in
set_option maxRecDepth 100000 in
theorem law_FnBursts (v0 : Value) (l0 : List Value) (k0 : ∀ x ∈ l0, ∃ y : Int, x = .int .u8 y ∧ 0 ≤ y ∧ y ≤ 255) (v1 : Value) (l1 : List Value) (k1 : ∀ x ∈ l1, ∃ y : Int, x = .int .u8 y ∧ 0 ≤ y ∧ y ≤ 255) (w : World)
    (ht : TzT w) {x0 : Addr} (e0 : Ev 0 x0 w) (r0 : RdV (· < w.heap.size) w v0 l0) (r1 : RdV (· < w.heap.size) w v1 l1) :
    Calls Tryd.prog 9 #[v0, v1] w fun e w' => e = .returned (.bool true) ∧ Below w.heap.size w w' := by
  have HR0 := Lib.hid r0
  have HK0 := Lib.hid k0
  have HE0 := Lib.hid e0
  have HTZ := Lib.hid ht
  obtain ⟨ya, ⟨ya0, ya1⟩, hya⟩ := r8At_is w v1 l1 0 10 (by omega) r1 k1
  obtain ⟨yb, ⟨yb0, yb1⟩, hyb⟩ := r8At_is w v1 l1 1 130 (by omega) r1 k1
  obtain ⟨A0, n0, c0, rfl, hn0, -⟩ := r0
  obtain ⟨A1, n1, c1, rfl, hn1, -⟩ := r1
  clear k0 k1 hn0 hn1 e0 ht
  have HL := Lib.hid (fun W => r8Long_any W A0 A1 n0 c0 n1 c1)
  by_cases hz : 48 < n0 ∨ 48 < n1
  · have hz' : (decide (48 < n0) || decide (48 < n1)) = true := by rcases hz with h | h <;> simp [h]
    rw [hz'] at HL
    clear hz hz' hya hyb
    go_enter Tryd.func9, Tryd.ntmps9
    go_wp2_with fail
    refine (HL.out _).mono ?_; rintro e w1 ⟨rfl, q, rfl⟩
    go_wp2_with fail
    go_ret
    exact ⟨rfl, below_dn (Below.refl _ _) q⟩
  · have hz' : (decide (48 < n0) || decide (48 < n1)) = false := by simp; omega
    rw [hz'] at HL
    obtain ⟨Y, rfl⟩ := Int.eq_ofNat_of_zero_le ya0
    obtain ⟨Fa, hFa⟩ : ∃ Fa : Nat, (Fa : Int) = 1 + yb := ⟨(1 + yb).toNat, by omega⟩
    have HYA : Hid (∀ W, Below w.heap.size w W → Calls Tryd.prog 45 #[.slice A1 n1 c1, .int .i64 0, .int .i64 10] W fun e w' => e = .returned (.int .i64 (Y : Int)) ∧ W = w') := hya
    have HYB : Hid (∀ W, Below w.heap.size w W → Calls Tryd.prog 45 #[.slice A1 n1 c1, .int .i64 1, .int .i64 130] W fun e w' => e = .returned (.int .i64 yb) ∧ W = w') := hyb
    have wfa : IntKind.i64.wrap (1 + yb) = (Fa : Int) := by rw [hFa]; exact IntWalk.i64_in _ (by omega)
    have hF1 : 1 ≤ Fa ∧ Fa ≤ 130 := by omega
    have hY10 : Y < 10 := by omega
    clear hz hz' hya hyb hFa ya0 ya1 yb0 yb1
    go_enter Tryd.func9, Tryd.ntmps9
    go_wp2_with fail
    refine (HL.out _).mono ?_; rintro e w1 ⟨rfl, q, rfl⟩
    have B1' : Hid (Below w.heap.size w (w.drewN q)) := below_dn (Below.refl _ _) q
    go_wp2_with fail
    refine (r8Check_any _ _ _ (rdv_keepB HR0.out B1'.out) HK0.out).mono ?_; rintro e w2 ⟨p, rfl, hp, hb2⟩
    have B2 := Lib.hid (B1'.out.trans (hb2.mono B1'.out.size))
    clear hb2 B1' HL HR0 HK0
    obtain ⟨P, rfl⟩ := Int.eq_ofNat_of_zero_le (show 0 ≤ p by omega)
    have hck : ckB (P : Int) = true := decide_eq_true (by omega)
    have hg := deg_log (n := P) (by omega)
    have hD6 : Nat.log2 P ≤ 6 := by
      rcases Nat.lt_or_ge (Nat.log2 P) 7 with h | h
      · omega
      · have := Nat.pow_le_pow_right (show 0 < 2 by omega) h
        have := hg.lo
        omega
    have hsm := sm_le (P := P) (by omega)
    have HSH := Lib.hid (fun W (h : Below w.heap.size w W) => shortest_impl (P : Int) W (HTZ.out.keep h))
    rw [sm_yes hck, hck, Int.toNat_natCast] at HSH
    have HOR := Lib.hid (fun W (h : Below w.heap.size w W) => order_impl (P : Int) W x0 (HE0.out.keep h))
    have sz : ∀ l : List UInt8, (⟨l.toArray⟩ : ByteArray).size = l.length := fun l => by show l.toArray.size = _; simp
    have HHC : Hid (∀ (l : List UInt8) W (b : Bool), l.length ≤ 400 → inR 48 49 l = true → decide (rd P (Nat.log2 P) (nbl l) = 0) = b → Below w.heap.size w W → Calls Tryd.prog 54 #[.int .i64 (P : Int), .string ⟨l.toArray⟩] W fun e w' => e = .returned (.bool b) ∧ Below W.heap.size W w') := by
      show ∀ l W b, _
      intro l W b h1 h2 h3 h
      have := hasCheck_impl (P : Int) ⟨l.toArray⟩ W (by rw [sz]; unfold maxLen; omega) x0 (HE0.out.keep h)
      have hib : isB l = true := by unfold isB; rw [h2, decide_eq_true h1]; rfl
      have hh : hcB (P : Int) (⟨l.toArray⟩ : ByteArray).data.toList = b := by
        show hcB (P : Int) l = b
        unfold hcB ckOk
        rw [hck, hib, Int.toNat_natCast, h3]; rfl
      rw [hh] at this
      exact this
    have HBS := Lib.hid (fun x n z h1 h2 h3 => burst_seen (P := P) (by omega) x n z h1 h2 h3)
    have HSF := Lib.hid (rd_self hg)
    have hor : orOk (P : Int) = decide ((P : Int) % 2 = 1) := by unfold orOk; rw [hck]; rfl
    obtain ⟨tb, htb⟩ : ∃ tb : Bool, tb = decide ((P : Int) % 2 = 1) := ⟨_, rfl⟩
    have hpar : ((P : Int) % 2 == 1) = tb := by
      rw [htb]; by_cases h : (P : Int) % 2 = 1
      · rw [h]; rfl
      · rw [decide_eq_false h]; simpa using h
    rw [hor, ← htb] at HOR
    have HOV : Hid (tb = true → P % 2 = 1 ∧ orV (P : Int) = (ordN P (Nat.log2 P) : Nat)) := by
      show tb = true → _
      intro h
      rw [h] at htb
      have h2 := of_decide_eq_true htb.symm
      exact ⟨by omega, by rw [or_yes (by rw [hor]; exact decide_eq_true h2), Int.toNat_natCast]⟩
    have HTW := Lib.hid (fun ho far hf => two_missed hg ho far hf)
    have HOF := Lib.hid (fun ho => ord_facts hg ho)
    obtain ⟨S, hS⟩ : ∃ S, S = smN P := ⟨_, rfl⟩
    rw [← hS] at HSH HBS hsm
    obtain ⟨D, hD⟩ : ∃ D, D = Nat.log2 P := ⟨_, rfl⟩
    rw [← hD] at HHC HBS HSF HOV HTW HOF hD6 hsm
    obtain ⟨O, hO⟩ : ∃ O, O = orV (P : Int) := ⟨_, rfl⟩
    rw [← hO] at HOR HOV
    have hS7 : S ≤ 7 := by omega
    have hS1 : 1 ≤ S := hsm.1
    have HP := Lib.hid hp
    have hP0 : (0 : Int) ≤ (P : Int) := by omega
    clear hck hg hsm hD6 hS hD hO hor htb hp HTZ HE0
    go_wp2_with fail
    refine (HSH.out _ B2.out).mono ?_; rintro e u1 ⟨rfl, hbn⟩
    have B3 : Hid (Below w.heap.size w u1) := B2.out.trans (hbn.mono B2.out.size)
    clear hbn B2 HSH
    go_wp2_with fail
    have hsd1 : decide ((S : Int) < 1) = false := decide_eq_false (by omega)
    have hsd2 : decide ((7 : Int) < (S : Int)) = false := decide_eq_false (by omega)
    refine (HOR.out _ B3.out).mono ?_; rintro e u2 ⟨rfl, hbn⟩
    have B4 : Hid (Below w.heap.size w u2) := B3.out.trans (hbn.mono B3.out.size)
    clear hbn B3 HOR
    go_wp2_with fail
    clear hsd1 hsd2
    have hY2 : (Y : Int) ≤ 10 := by omega
    have hY0 : (0 : Int) ≤ (Y : Int) := by omega
    go_loopw [10] (fun nv wr => ∃ n : Nat, nv = .int .i64 (n : Int) ∧ 1 ≤ n ∧ n ≤ S ∧ Below w.heap.size w wr) (fun nv _ => S - (intOf nv).toNat)
    case atStart => exact ⟨1, rfl, Nat.le_refl _, hS1, B4.out⟩
    case round =>
      obtain ⟨n, rfl, n1, nS, hb⟩ := hrel
      have HB := Lib.hid hb
      clear hb B4
      by_cases hnS : n < S
      · have hnS' : (n : Int) < (S : Int) := by omega
        go_wp2_with fail
        go_loopw [11] (fun xv wr => ∃ x : Nat, xv = .int .i64 (x : Int) ∧ x ≤ 2 ^ n ∧ Below w.heap.size w wr) (fun xv _ => 2 ^ n - (intOf xv).toNat)
        case atStart => exact ⟨0, rfl, Nat.zero_le _, HB.out⟩
        case round =>
          clear HB
          obtain ⟨x, rfl, hx, hb⟩ := hrel
          have HB := Lib.hid hb
          clear hb
          have hM64 : 2 ^ n ≤ 64 := by have := Nat.pow_le_pow_right (show 0 < 2 by omega) (show n ≤ 6 by omega); omega
          obtain ⟨M, hM⟩ : ∃ M, M = 2 ^ n := ⟨_, rfl⟩
          have eM : IntKind.i64.wrap (2 ^ n : Int) = (M : Int) := by
            have h2 : (2 ^ n : Int) = ((2 ^ n : Nat) : Int) := by rw [Int.natCast_pow]; rfl
            rw [h2, ← hM, IntKind.wrap_i64]; omega
          have hnm : min n 64 = n := by omega
          have hn0 : (0 : Int) ≤ (n : Int) := by omega
          have eN : IntKind.u64.wrap (n : Int) = (n : Int) := u64_w n (by omega)
          have HMP := Lib.hid hM
          rw [← hM] at hM64 hx ⊢
          clear hM
          by_cases hlt : x < M
          · have hlt' : (x : Int) < (M : Int) := by omega
            obtain ⟨N1, hN1⟩ : ∃ N1, N1 = n - 1 := ⟨_, rfl⟩
            have eN1 : (n : Int) - 1 = (N1 : Int) := by omega
            have eNu : IntKind.u64.wrap (N1 : Int) = (N1 : Int) := u64_w N1 (by omega)
            have hNm : min N1 64 = N1 := by omega
            have hN0 : (0 : Int) ≤ (N1 : Int) := by omega
            have ewn : IntKind.i64.wrap ((n : Int) - 1) = (N1 : Int) := by rw [IntKind.wrap_i64]; omega
            obtain ⟨qq, hqq⟩ : ∃ qq, qq = x / 2 ^ N1 := ⟨_, rfl⟩
            have eqq : (x : Int) / 2 ^ N1 = (qq : Int) := by rw [hqq, Int.natCast_ediv]; congr 1
            have hx0 : (0 : Int) ≤ (x : Int) := by omega
            have HQ := Lib.hid hqq
            have HN := Lib.hid hN1
            clear hqq hN1
            by_cases hev : x % 2 = 0
            · have hevi : (x : Int) % 2 = 0 := by omega
              clear eqq eN1
              go_wp2_with fail
              go_roundw
              case rel => exact ⟨x + 1, by go_num, by omega, HB.out⟩
              case measure => simp [intOf]; omega
            · have hevi : (x : Int) % 2 = 1 := by omega
              by_cases hq0 : qq = 0
              · subst hq0
                rw [show ((0 : Nat) : Int) = 0 from rfl] at eqq
                clear eN1
                go_wp2_with fail
                go_roundw
                case rel => exact ⟨x + 1, by go_num, by omega, HB.out⟩
                case measure => simp [intOf]; omega
              · have hq0i : ((qq : Int) == 0) = false := by simpa using (show ¬ (qq : Int) = 0 by omega)
                clear eN1
                have HNX : Hid (∀ m, m < n → ∀ K, K = n - 1 - m → digs (x : Int) n (m + 1) = digs (x : Int) n m ++ [dg (x : Int) K]) := by
                  show ∀ m, _
                  intro m hm K hK
                  rw [hK]; exact digs_succ _ _ _
                go_wp2_with fail
                go_loopw [12, 13] (fun bs kv wr => ∃ (m : Nat) (z : Int), m ≤ n ∧ kv = .int .i64 z ∧ z = (n : Int) - 1 - m ∧ bs = .string ⟨(digs (x : Int) n m).toArray⟩ ∧ Below w.heap.size w wr) (fun _ kv _ => (intOf kv + 1).toNat)
                case atStart => exact ⟨0, (N1 : Int), Nat.zero_le _, rfl, by have := HN.out; omega, rfl, HB.out⟩
                case round =>
                  clear HB
                  obtain ⟨m, z, hm, rfl, hz, rfl, hb⟩ := hrel
                  have HB := Lib.hid hb
                  by_cases hml : m < n
                  · obtain ⟨K, hK⟩ : ∃ K, K = n - 1 - m := ⟨_, rfl⟩
                    obtain rfl : z = (K : Int) := by omega
                    have hdg := HNX.out m hml K hK
                    have hcv := dg_val (x : Int) K
                    obtain ⟨q, hq⟩ : ∃ q, q = x / 2 ^ K := ⟨_, rfl⟩
                    have eq1 : (x : Int) / 2 ^ K = (q : Int) := by rw [hq, Int.natCast_ediv]; congr 1
                    rw [eq1] at hcv
                    obtain ⟨d, hd⟩ : ∃ d, d = q % 2 := ⟨_, rfl⟩
                    have ea : bits .and .i64 (q : Int) 1 = (d : Int) := by rw [i64_and1, hd]; exact (Int.natCast_emod q 2).symm
                    have hd2 : d < 2 := by omega
                    obtain ⟨c, hc⟩ : ∃ c, c = dg (x : Int) K := ⟨_, rfl⟩
                    rw [← hc] at hdg hcv
                    have hcd : (c.toNat : Int) = 48 + (d : Int) := by omega
                    have e48 : IntKind.i64.wrap (48 + (d : Int)) = 48 + (d : Int) := by rw [IntKind.wrap_i64]; omega
                    have e8 : IntKind.u8.wrap (48 + (d : Int)) = (c.toNat : Int) := by
                      rw [hcd, show IntKind.u8.wrap (48 + (d : Int)) = (48 + (d : Int)) % 256 by simp [IntKind.wrap, IntKind.bits, IntKind.signed]]; omega
                    have eK : IntKind.u64.wrap (K : Int) = (K : Int) := u64_w K (by omega)
                    have hKm : min K 64 = K := by omega
                    have hK0 : (0 : Int) ≤ (K : Int) := by omega
                    have hcn := fun W => conv_uno W c
                    obtain ⟨S1, hS1⟩ : ∃ S1 : ByteArray, S1 = ⟨(digs (x : Int) n m).toArray⟩ := ⟨_, rfl⟩
                    obtain ⟨N2, hN2⟩ : ∃ N2 : ByteArray, N2 = ⟨(digs (x : Int) n (m + 1)).toArray⟩ := ⟨_, rfl⟩
                    have r1 : ∀ W : World, (Op.stringOp .add S1 ⟨#[c]⟩).run Tryd.prog W = .ok (.string N2) W := fun W => by
                      have hs : S1.size = m := by rw [hS1]; show (digs (x : Int) n m).toArray.size = _; rw [List.size_toArray, digs_length]
                      rw [run_string_add_sum W _ _ (by rw [hs]; show m + 1 ≤ _; omega), hS1, hN2, hdg]
                      have := ba_app (digs (x : Int) n m) [c]
                      rw [← this]
                    rw [← hS1]
                    have HN2 := Lib.hid hN2
                    have HKL := Lib.hid hK
                    have HB2 := Lib.hid (HB.out.alloc HB.out.size (.cells #[.int .u8 (c.toNat : Int)] 5))
                    clear hdg hcv hq hd hc hcd hS1 hN2 hK hz hb HB eqq
                    go_wp2_with fail
                    go_roundw
                    case rel => exact ⟨m + 1, (K : Int) - 1, by omega, by go_num, by have := HKL.out; omega, by rw [HN2.out], HB2.out⟩
                    case measure => simp [intOf]
                  · obtain rfl : m = n := by omega
                    obtain rfl : z = -1 := by omega
                    have hlL : (digs (x : Int) m m ++ List.replicate Y (48 : UInt8)).length = m + Y := by rw [List.length_append, digs_length, List.length_replicate]
                    have hnb : nbl (digs (x : Int) m m ++ List.replicate Y (48 : UInt8)) = x * 2 ^ Y := by
                      rw [nbl_zeros, nbl_digs x m (by rw [← HMP.out]; exact hlt) m (Nat.le_refl _), Nat.sub_self, Nat.pow_zero, Nat.div_one]
                    have hfa : decide (rd P D (nbl (digs (x : Int) m m ++ List.replicate Y (48 : UInt8))) = 0) = false := by
                      rw [hnb]
                      exact decide_eq_false (HBS.out x m Y hnS (by rw [← HMP.out]; exact hlt) (by omega))
                    have HC := Lib.hid (fun W h => HHC.out (digs (x : Int) m m ++ List.replicate Y (48 : UInt8)) W false (by rw [hlL]; omega) (inR_app (digs_inR _ _ _) (inR_zeros Y)) hfa h)
                    obtain ⟨S1, hS1⟩ : ∃ S1 : ByteArray, S1 = ⟨(digs (x : Int) m m).toArray⟩ := ⟨_, rfl⟩
                    obtain ⟨N2, hN2⟩ : ∃ N2 : ByteArray, N2 = ⟨(digs (x : Int) m m ++ List.replicate Y (48 : UInt8)).toArray⟩ := ⟨_, rfl⟩
                    have hze : (⟨#[48, 48, 48, 48, 48, 48, 48, 48, 48, 48]⟩ : ByteArray).extract 0 Y = ⟨(List.replicate Y (48 : UInt8)).toArray⟩ := by
                      rcases (show Y = 0 ∨ Y = 1 ∨ Y = 2 ∨ Y = 3 ∨ Y = 4 ∨ Y = 5 ∨ Y = 6 ∨ Y = 7 ∨ Y = 8 ∨ Y = 9 by omega) with rfl | rfl | rfl | rfl | rfl | rfl | rfl | rfl | rfl | rfl <;> rfl
                    have r1 : ∀ W : World, (Op.stringOp .add S1 ((⟨#[48, 48, 48, 48, 48, 48, 48, 48, 48, 48]⟩ : ByteArray).extract 0 Y)).run Tryd.prog W = .ok (.string N2) W := fun W => by
                      rw [hze, run_string_add_sum W _ _ (by rw [hS1, sz, sz, digs_length, List.length_replicate]; omega), hS1, hN2, ba_app]
                    rw [← hN2] at HC
                    rw [← hS1]
                    clear hlL hnb hfa hze hS1 hN2 HHC HBS HNX hz hm hml hb eqq
                    go_wp2_with fail
                    refine (HYA.out _ HB.out).mono ?_; rintro e w' ⟨rfl, rfl⟩
                    go_wp2_with fail
                    refine (HC.out _ HB.out).mono ?_; rintro e u3 ⟨rfl, hbn⟩
                    have HB3 : Hid (Below w.heap.size w u3) := HB.out.trans (hbn.mono HB.out.size)
                    clear hbn HB HC r1
                    go_wp2_with fail
                    go_roundw
                    case rel => exact ⟨x + 1, by go_num, by omega, HB3.out⟩
                    case measure => simp [intOf]; omega
          · have hlt' : ¬ (x : Int) < (M : Int) := by omega
            go_wp2_with fail
            go_roundw
            case rel => exact ⟨n + 1, by go_num, by omega, by omega, HB.out⟩
            case measure => simp [intOf]; omega
      · obtain rfl : n = S := by omega
        have HNP : Hid (∀ m, m < 7 → ∀ K, K = 7 - 1 - m → digs (P : Int) 7 (m + 1) = digs (P : Int) 7 m ++ [dg (P : Int) K]) := by
          show ∀ m, _
          intro m hm K hK
          rw [hK]; exact digs_succ _ _ _
        go_wp2_with fail
        go_loopw [14, 15] (fun bs kv wr => ∃ (m : Nat) (z : Int), m ≤ 7 ∧ kv = .int .i64 z ∧ z = 7 - 1 - (m : Int) ∧ bs = .string ⟨(digs (P : Int) 7 m).toArray⟩ ∧ Below w.heap.size w wr) (fun _ kv _ => (intOf kv + 1).toNat)
        case atStart => exact ⟨0, 6, by omega, rfl, by omega, rfl, HB.out⟩
        case round =>
          clear HB
          obtain ⟨m, z, hm, rfl, hz, rfl, hb⟩ := hrel
          have HB := Lib.hid hb
          by_cases hml : m < 7
          · obtain ⟨K, hK⟩ : ∃ K, K = 7 - 1 - m := ⟨_, rfl⟩
            obtain rfl : z = (K : Int) := by omega
            have hdg := HNP.out m hml K hK
            have hcv := dg_val (P : Int) K
            obtain ⟨q, hq⟩ : ∃ q, q = P / 2 ^ K := ⟨_, rfl⟩
            have eq1 : (P : Int) / 2 ^ K = (q : Int) := by rw [hq, Int.natCast_ediv]; congr 1
            rw [eq1] at hcv
            obtain ⟨d, hd⟩ : ∃ d, d = q % 2 := ⟨_, rfl⟩
            have ea : bits .and .i64 (q : Int) 1 = (d : Int) := by rw [i64_and1, hd]; exact (Int.natCast_emod q 2).symm
            have hd2 : d < 2 := by omega
            obtain ⟨c, hc⟩ : ∃ c, c = dg (P : Int) K := ⟨_, rfl⟩
            rw [← hc] at hdg hcv
            have hcd : (c.toNat : Int) = 48 + (d : Int) := by omega
            have e48 : IntKind.i64.wrap (48 + (d : Int)) = 48 + (d : Int) := by rw [IntKind.wrap_i64]; omega
            have e8 : IntKind.u8.wrap (48 + (d : Int)) = (c.toNat : Int) := by
              rw [hcd, show IntKind.u8.wrap (48 + (d : Int)) = (48 + (d : Int)) % 256 by simp [IntKind.wrap, IntKind.bits, IntKind.signed]]; omega
            have eK : IntKind.u64.wrap (K : Int) = (K : Int) := u64_w K (by omega)
            have hKm : min K 64 = K := by omega
            have hK0 : (0 : Int) ≤ (K : Int) := by omega
            have hcn := fun W => conv_uno W c
            obtain ⟨S1, hS1⟩ : ∃ S1 : ByteArray, S1 = ⟨(digs (P : Int) 7 m).toArray⟩ := ⟨_, rfl⟩
            obtain ⟨N2, hN2⟩ : ∃ N2 : ByteArray, N2 = ⟨(digs (P : Int) 7 (m + 1)).toArray⟩ := ⟨_, rfl⟩
            have r1 : ∀ W : World, (Op.stringOp .add S1 ⟨#[c]⟩).run Tryd.prog W = .ok (.string N2) W := fun W => by
              have hs : S1.size = m := by rw [hS1]; show (digs (P : Int) 7 m).toArray.size = _; rw [List.size_toArray, digs_length]
              rw [run_string_add_sum W _ _ (by rw [hs]; show m + 1 ≤ _; omega), hS1, hN2, hdg]
              have := ba_app (digs (P : Int) 7 m) [c]
              rw [← this]
            rw [← hS1]
            have HN2 := Lib.hid hN2
            have HKL := Lib.hid hK
            have HB2 := Lib.hid (HB.out.alloc HB.out.size (.cells #[.int .u8 (c.toNat : Int)] 5))
            clear hdg hcv hq hd hc hcd hS1 hN2 hK hz hb HB
            go_wp2_with fail
            go_roundw
            case rel => exact ⟨m + 1, (K : Int) - 1, by omega, by go_num, by have := HKL.out; omega, by rw [HN2.out], HB2.out⟩
            case measure => simp [intOf]
          · obtain rfl : m = 7 := by omega
            obtain rfl : z = -1 := by omega
            have hnb : nbl (digs (P : Int) 7 7) = P := by
              rw [nbl_digs P 7 (by have := HP.out; omega) 7 (Nat.le_refl _), Nat.sub_self, Nat.pow_zero, Nat.div_one]
            have HC := Lib.hid (fun W h => HHC.out (digs (P : Int) 7 7) W true (by rw [digs_length]; omega) (digs_inR _ _ _) (by rw [hnb, HSF.out]; rfl) h)
            cases tb with
            | false =>
              clear hnb HNP hz hb
              go_wp2_with fail
              refine (HC.out _ HB.out).mono ?_; rintro e u3 ⟨rfl, hbn⟩
              have HB3 : Hid (Below w.heap.size w u3) := HB.out.trans (hbn.mono HB.out.size)
              clear hbn HB HC
              go_wp2_with fail
              go_ret
              exact ⟨rfl, HB3.out⟩
            | true =>
              obtain ⟨ho, hOe⟩ := HOV.out rfl
              have h2m := HTW.out ho Fa hF1.1
              have ho1 := (HOF.out ho).1
              have ho2 := (HOF.out ho).2.1
              obtain ⟨ON, hON⟩ : ∃ ON, ON = ordN P D := ⟨_, rfl⟩
              rw [← hON] at hOe h2m ho1 ho2
              subst hOe
              clear hON
              clear hnb HNP hz hb HBS HSF
              go_wp2_with fail
              refine (HC.out _ HB.out).mono ?_; rintro e u3 ⟨rfl, hbn⟩
              have HB3 : Hid (Below w.heap.size w u3) := HB.out.trans (hbn.mono HB.out.size)
              clear hbn HB HC
              go_wp2_with fail
              refine (HYB.out _ HB3.out).mono ?_; rintro e w' ⟨rfl, rfl⟩
              go_wp2_with fail
              go_loopw [17, 18] (fun bs kv wr => ∃ j : Nat, j + 1 ≤ Fa ∧ kv = .int .i64 ((j + 1 : Nat) : Int) ∧ bs = .string ⟨([49] ++ List.replicate j (48 : UInt8)).toArray⟩ ∧ Below w.heap.size w wr) (fun _ kv _ => Fa - (intOf kv).toNat)
              case atStart => exact ⟨0, hF1.1, rfl, rfl, HB3.out⟩
              case round =>
                clear HB3
                obtain ⟨j, hj, rfl, rfl, hb⟩ := hrel
                have HB := Lib.hid hb
                clear hb
                by_cases hlt : j + 1 < Fa
                · have hlt' : ((j + 1 : Nat) : Int) < (Fa : Int) := by omega
                  obtain ⟨S1, hS1⟩ : ∃ S1 : ByteArray, S1 = ⟨([49] ++ List.replicate j (48 : UInt8)).toArray⟩ := ⟨_, rfl⟩
                  obtain ⟨N2, hN2⟩ : ∃ N2 : ByteArray, N2 = ⟨([49] ++ List.replicate (j + 1) (48 : UInt8)).toArray⟩ := ⟨_, rfl⟩
                  have r1 : ∀ W : World, (Op.stringOp .add S1 ⟨#[48]⟩).run Tryd.prog W = .ok (.string N2) W := fun W => by
                    have hs : S1.size = 1 + j := by rw [hS1, sz]; simp; omega
                    rw [run_string_add_sum W _ _ (by rw [hs]; show 1 + j + 1 ≤ _; omega), hS1, hN2]
                    have := ba_app ([49] ++ List.replicate j (48 : UInt8)) [48]
                    rw [List.append_assoc, ← List.replicate_succ'] at this
                    rw [← this]
                  rw [← hS1]
                  obtain ⟨k, hk⟩ : ∃ k, k = j + 1 := ⟨_, rfl⟩
                  rw [← hk] at hlt' ⊢
                  have HN2 := Lib.hid hN2
                  have HK := Lib.hid hk
                  clear hS1 hN2
                  have hk130 : k ≤ 130 := by omega
                  clear hk
                  go_wp2_with fail
                  go_roundw
                  case rel => exact ⟨j + 1, by omega, by rw [← HK.out]; go_num, by rw [HN2.out], HB.out⟩
                  case measure => simp [intOf]; omega
                · obtain rfl : Fa = j + 1 := by omega
                  have hnb : nbl (([49] ++ List.replicate j (48 : UInt8)) ++ [49]) = 2 ^ (j + 1) + 1 := by
                    rw [nbl_snoc, nbl_zeros, Nat.pow_succ]
                    show 2 * (1 * 2 ^ j) + 1 = _
                    omega
                  have hlL : (([49] ++ List.replicate j (48 : UInt8)) ++ [49]).length = j + 2 := by simp
                  obtain ⟨R, hR⟩ : ∃ R, R = (j + 1) % ON := ⟨_, rfl⟩
                  rw [← hR] at h2m
                  have HC := Lib.hid (fun W h => HHC.out (([49] ++ List.replicate j (48 : UInt8)) ++ [49]) W (decide (R = 0)) (by rw [hlL]; omega) (inR_app (inR_app (by decide) (inR_zeros j)) (by decide)) (by rw [hnb]; exact h2m) h)
                  obtain ⟨Fb, hFb⟩ : ∃ Fb, Fb = j + 1 := ⟨_, rfl⟩
                  have eqm : (Fb : Int) % (ON : Int) = (R : Int) := by rw [hR, hFb]; exact (Int.natCast_emod (j + 1) ON).symm
                  have hRle : R ≤ Fb := by rw [hR, hFb]; exact Nat.mod_le _ _
                  have hO0 : ((ON : Int) == 0) = false := by simpa using (show ¬ (ON : Int) = 0 by omega)
                  have hO1 : (0 : Int) < (ON : Int) := by omega
                  have hO2 : (1 : Int) ≤ (ON : Int) := by omega
                  have hO2d : decide ((1 : Int) ≤ (ON : Int)) = true := decide_eq_true (by omega)
                  have hO0n : ¬ (ON : Int) = 0 := by omega
                  have hFb0 : (0 : Int) ≤ (Fb : Int) := by omega
                  have hRlt : R < ON := by rw [hR]; exact Nat.mod_lt _ (by omega)
                  obtain ⟨S1, hS1⟩ : ∃ S1 : ByteArray, S1 = ⟨([49] ++ List.replicate j (48 : UInt8)).toArray⟩ := ⟨_, rfl⟩
                  obtain ⟨N2, hN2⟩ : ∃ N2 : ByteArray, N2 = ⟨(([49] ++ List.replicate j (48 : UInt8)) ++ [49]).toArray⟩ := ⟨_, rfl⟩
                  have r1 : ∀ W : World, (Op.stringOp .add S1 ⟨#[49]⟩).run Tryd.prog W = .ok (.string N2) W := fun W => by
                    have hs : S1.size = 1 + j := by rw [hS1, sz]; simp; omega
                    rw [run_string_add_sum W _ _ (by rw [hs]; show 1 + j + 1 ≤ _; omega), hS1, hN2]
                    have := ba_app ([49] ++ List.replicate j (48 : UInt8)) [49]
                    rw [← this]
                  rw [← hN2] at HC
                  rw [← hS1, ← hFb]
                  have hD64 : ON ≤ 2 ^ D := ho2
                  clear hnb hlL hS1 hN2 HHC HTW HOF HOV h2m hR hlt hj hD64 ho2
                  have B9 : Hid (Below w.heap.size w wr.drew) := HB.out.drew
                  obtain ⟨tr, htr⟩ : ∃ tr : Bool, tr = decide (R = 0) := ⟨_, rfl⟩
                  have hRe : ((R : Int) == 0) = tr := by
                    rw [htr]; by_cases h : R = 0
                    · subst h; rfl
                    · rw [decide_eq_false h]; simpa using (show ¬ (R : Int) = 0 by omega)
                  have hbb : (tr == tr) = true := by simp
                  rw [← htr] at HC
                  clear htr hRlt
                  obtain ⟨fI, hfI⟩ : ∃ x : Int, x = (Fb : Int) := ⟨_, rfl⟩
                  obtain ⟨oI, hoI⟩ : ∃ x : Int, x = (ON : Int) := ⟨_, rfl⟩
                  obtain ⟨rI, hrI⟩ : ∃ x : Int, x = (R : Int) := ⟨_, rfl⟩
                  rw [← hfI, ← hoI, ← hrI] at eqm
                  rw [← hoI] at hO0 hO1 hO2 hO2d hO0n
                  rw [← hfI] at hFb0
                  rw [← hrI] at hRe
                  rw [← hfI, ← hoI]
                  have hr0 : 0 ≤ rI := by omega
                  have hr1 : rI < 100000 ∨ True := .inr trivial
                  have hm0 : IntKind.i64.wrap rI = rI := by rw [hrI]; exact IntWalk.i64_in _ (by omega)
                  have htm : Int.tmod fI oI = rI := by rw [Int.tmod_eq_emod_of_nonneg hFb0]; exact eqm
                  clear hfI hoI hrI hr1
                  go_wp2_with fail
                  go_region_held3 (fun _ => True) (trivial)
                    (first
                      | (go_at_call 54; refine (HC.out _ B9.out).mono ?_; rintro e u9 ⟨rfl, hbn⟩; have HB9 := Lib.hid (B9.out.trans (hbn.mono B9.out.size)); clear hbn)
                      | fail)
                  all_goals go_wp2_with fail
                  all_goals go_ret
                  all_goals exact ⟨by simp, HB9.out⟩
end Go.Proofs.YtnpigefbdadjfaaDoor

namespace Go.Proofs.YtnpigefbdadjfaaDoor.fnBursts
open Go.ChangeShapes Go.WideShapes Go.ChangeAt Go.RowKit
open Go.ChangeMaps (open_string shut_string)
set_option linter.unusedVariables false

theorem laid : laidOutB Tryd.prog = true := by kernel_rfl
theorem own : ownKnob Tryd.prog.godebug = none := by kernel_rfl
/-- What the row lists. -/
def laidL : List (String × DataW Unit) := [("math/bits.deBruijn64tab", Rows.laid_math_bits_deBruijn64tab), ("loop.example/g01142/impl.errInvalid", Rows.laid_loop_example_g01142_impl_errInvalid)]
theorem door_met (os : Os) (args : Array Value) : laidMetH Tryd.prog laidL ((World.doorLaid Tryd.prog 400 os).forCall (fun _ _ => 0) ⟨#[], args, []⟩).memory :=
  laidMetH_of_parts3 (fuel := 8) (laidMet_of_run' 8 (by kernel_rfl) (by kernel_rfl)) (by kernel_rfl) (by kernel_rfl)
theorem cellsE : Tryd.prog.cellsOf 221 = 1 := by kernel_rfl
theorem cellsS : Tryd.prog.cellsOf 9 = 1 := by kernel_rfl
theorem star : "*" ++ "errors.errorString" = "*errors.errorString" := by decide
theorem rowE (u : TypeId) (h : Tryd.prog.typeName? 3 u = some "*errors.errorString") : u = 219 :=
  typeName_ptr_named (nm := "errors.errorString") (by rw [star]; kernel_rfl) (by kernel_rfl) (by decide) u (by rw [star]; exact h)
theorem g_inv : Tryd.prog.globalNamed "loop.example/g01142/impl.errInvalid" = some 0 := by kernel_rfl
theorem t_inv : (Tryd.prog.globals[0]?).map (·.type) = some 82 := by kernel_rfl
theorem tz_of {W : World} {rest : List (String × DataW Unit)} (h : laidMet Tryd.prog (("math/bits.deBruijn64tab", Rows.laid_math_bits_deBruijn64tab) :: rest) W) : TzT W := by
  have h2 : laidMet Tryd.prog (("math/bits.deBruijn64tab", Lib.tabData .u8 (Lib.deBruijn64tab.map (fun (x : Nat) => (x : Int)))) :: rest) W := h
  have ht := Lib.tabIs_of_head (g := 2) (by kernel_rfl) (show (Tryd.prog.globals[2]?).map (·.type) = some 175 by kernel_rfl) Tryd.underlying175 Tryd.underlying5 (by kernel_rfl) (by kernel_rfl) h2
  refine ⟨fun j hj => ?_⟩
  have hl : Lib.deBruijn64tab.length = 64 := rfl
  rw [ht.cell (by kernel_rfl) j (by rw [List.length_map, hl]; exact hj), List.getD_eq_getElem?_getD, List.getElem?_map, List.getD_eq_getElem?_getD, List.getElem?_eq_getElem (by rw [hl]; exact hj)]; rfl
theorem vars_of {W : World} (h : laidMetH Tryd.prog laidL W) : TzT W ∧ (∃ a, W.var? Tryd.prog "loop.example/g01142/impl.errInvalid" = some #[.iface 219 (.pointer (some a))]) := by
  rw [MakeChecks.laidMetH_plain _ _ _ (by kernel_rfl)] at h
  have r0 := tz_of h
  obtain ⟨a1, _, r1, _⟩ := laid_sentinel (g := 0) (ti := 82) (f := _) h.tail (by kernel_rfl) (by kernel_rfl) Tryd.underlying82 rowE Tryd.underlying219 Tryd.underlying221 rfl rfl Tryd.underlying9 cellsE cellsS
  exact ⟨r0, ⟨a1, r1⟩⟩

set_option maxRecDepth 100000 in
theorem lifted (os : Os) (started : os.Started) (H : Type) (enc : TypeId × Value → H) :
    ReturnsInHanded {} Tryd.checked os 9 .any (fun w args => (Rows.fnBurstsSpec.pre enc Tryd.prog Tryd.f9 [] false w args ∧ laidMetH Tryd.prog laidL w) ∧ sizedMet enc Tryd.prog Tryd.f9 (OpenSpec.ofChange Rows.fnBurstsSpec) false w args)
      (Rows.fnBurstsSpec.post enc Tryd.prog Tryd.f9 false true false false) := by
  refine returnsInHanded_of_change_and (C := Tryd.checked) (X := fun w _ => laidMetH Tryd.prog laidL w) (fun _ _ _ hh h => h.of_heap hh) own started (by kernel_rfl) Tryd.func9
    (ChangeSpec.witness_shaped (enc := enc) (C := Tryd.checked) (os := os) (X := fun w _ => laidMetH Tryd.prog laidL w) false (World.doorLaid Tryd.prog 400 os) #[.slice none 0 0, .slice none 0 0] 8 rfl (World.shaped_of_RefB (by kernel_rfl) (by kernel_rfl)) (by kernel_rfl) (by kernel_rfl) (by kernel_rfl) (door_met os _)) ?_
  intro W base args ds gs before hval0 hW _ _ hL _
  have hval : ∀ (j : Nat) t v, Tryd.f9.params[j]? = some t → args[j]? = some v → Value.okWide Tryd.prog W .any base t v := hval0
  have hW' := hW
  obtain ⟨p, q, hA0, hV0, rfl, hfz, hnd⟩ := hW
  have hA : DataW.TrodAll enc Tryd.prog W 0 (fun _ => true) true Tryd.f9.params.toList args.toList ds p := hA0
  have hV : DataW.TrodVars enc Tryd.prog W (fun _ => true) ["loop.example/g01142/impl.errInvalid"] gs q := hV0
  rw [Tryd.params9] at hA hval
  obtain ⟨v0, vs0, d0, ds0, p0, q0, hargs, rfl, rfl, h0, r0⟩ := trodAll_cons hA
  obtain ⟨v1, vs1, d1, ds1, p1, q1, rfl, rfl, rfl, h1, r1⟩ := trodAll_cons r0
  obtain ⟨rfl, rfl, rfl⟩ := trodAll_nil r1
  obtain rfl : args = #[v0, v1] := by cases args; simp_all
  have hvars := vars_of hL
  obtain ⟨ht0, ⟨e1, hv1⟩⟩ := hvars
  obtain ⟨rfl, rfl⟩ := hV.unique (vars_read1 enc g_inv t_inv Tryd.underlying82 hv1 trivial _)
  have hg1 : Ev 0 e1 W := ⟨by simpa using World.var?_cell g_inv hv1 0⟩
  have kk0 := h0
  obtain ⟨ao0, len0, cap0, rfl⟩ := okWide_slice Tryd.underlying22 (hval 0 22 v0 rfl rfl)
  obtain ⟨fuel0, hf0⟩ := h0
  obtain ⟨l0, R0, F0⟩ := bytes_open (v := .slice ao0 len0 cap0) (by simpa [Value.cells] using hf0)
  have kk1 := h1
  obtain ⟨ao1, len1, cap1, rfl⟩ := okWide_slice Tryd.underlying22 (hval 1 22 v1 rfl rfl)
  obtain ⟨fuel1, hf1⟩ := h1
  obtain ⟨l1, R1, F1⟩ := bytes_open (v := .slice ao1 len1 cap1) (by simpa [Value.cells] using hf1)
  clear hA0 hV0 hval0
  refine (law_FnBursts _ l0 F0 _ l1 F1 W ht0 hg1 R0 R1).mono fun e W' ⟨he, bel⟩ => ?_
  subst he
  exact ⟨_, rfl, _, _, _, [], _, [.cell 0 0], hW', trodAll_mk1 (shut_bool Tryd.underlying4 _), (trodAll_cons_mk (Go.RowKit.Below.trod laid (by kernel_rfl) (of_decide_eq_true (by kernel_rfl)) kk0 bel (fun x hx => DataW.trod_lt _ _ _ _ kk0.choose_spec x hx)) (trodAll_cons_mk (Go.RowKit.Below.trod laid (by kernel_rfl) (of_decide_eq_true (by kernel_rfl)) kk1 bel (fun x hx => DataW.trod_lt _ _ _ _ kk1.choose_spec x hx)) trodAll_mk0)), (vars_read1 enc g_inv t_inv Tryd.underlying82 (Joins.var_stays g_inv hv1 bel (Nat.le_refl _)) trivial _), bel.frame _, fun h => by cases h⟩

theorem row_holds : Rows.FnBurstsSaid :=
  OpenClaim.holds_of_wide 9 Tryd.f9 rfl rfl rfl rfl rfl rfl rfl ⟨rfl, rfl, rfl, rfl, rfl⟩ rfl rfl rfl rfl rfl (by kernel_rfl) Tryd.func9 (by kernel_rfl)
    (of_decide_eq_true (by kernel_rfl)) (by unfold Func.isWrapper; first | (rw [if_pos (by decide +kernel)]; kernel_rfl) | (rw [if_neg (by decide +kernel)]; exact ⟨rfl, rfl⟩))
    (fun os started H enc _ => lifted os started H enc)

/-- The statement: the tied card. -/
theorem proved : Rows.FnBurstsCardSaid :=
  Claim7.holds_tied_plain_at .later [] [.data, .sentinel] true (true, Rows.fnBurstsCard.stood.harness.2) Rows.fnBurstsCard.stood.looks
    row_holds (fun _ h => by cases h) (by kernel_rfl) (fun _ h => by cases h) fnBursts_row_tie rfl ⟨rfl, rfl⟩ (by kernel_rfl) rfl
    (fun f fn hf hfn => by
      obtain rfl : f = 9 := Option.some.inj ((show Tryd.prog.funcNamed "loop.example/g01142/laws.FnBursts" = some 9 by kernel_rfl).symm.trans hf) |>.symm
      obtain rfl : fn = Tryd.f9 := (Option.some.inj (Tryd.func9.symm.trans hfn)).symm
      exact ⟨by kernel_rfl, fun j t ht => by
        rw [Tryd.params9] at ht
        rcases j with _ | _ | j
        · obtain rfl : t = 22 := by simpa using ht.symm
          exact (show Tryd.prog.wantsStandIn 22 = false by kernel_rfl)
        · obtain rfl : t = 22 := by simpa using ht.symm
          exact (show Tryd.prog.wantsStandIn 22 = false by kernel_rfl)
        · simp at ht⟩)
    (by kernel_rfl)
#print axioms proved
end Go.Proofs.YtnpigefbdadjfaaDoor.fnBursts

