/- The model's checks: l08Degree, l08Next, l08Rest, l08Sum; CheckBits, AddCheck, HasCheck. -/
import Derived.Test.YtkgfmpkpeipddabDoorDvm
import Derived.Test.YtkgfmpkpeipddabDoorIck
import Derived.Test.YtkgfmpkpeipddabDoorOrP
import Derived.Test.YtkgfmpkpeipddabDoorDig
namespace Go.Proofs.YtkgfmpkpeipddabDoor
open Go Go.RowKit
set_option linter.unusedVariables false

theorem i64_wn (x : Nat) (h : x < 9223372036854775808) : IntKind.i64.wrap (x : Int) = (x : Int) := IntWalk.i64_in _ (by omega)
theorem i64_or_nat (a b : Nat) (ha : a < 4611686018427387904) (hb : b < 4611686018427387904) : bits .or .i64 (a : Int) (b : Int) = ((a ||| b : Nat) : Int) := by
  have hx : a ||| b < 2 ^ 62 := Nat.or_lt_two_pow (by omega) (by omega)
  show IntKind.i64.wrap ((BitVec.ofInt 64 (a : Int) ||| BitVec.ofInt 64 (b : Int)).toNat : Int) = _
  rw [BitVec.toNat_or, ofInt_u64 a (by omega), ofInt_u64 b (by omega)]
  exact i64_wn _ (by omega)
theorem i64_xor_nat (a b : Nat) (ha : a < 4611686018427387904) (hb : b < 4611686018427387904) : bits .xor .i64 (a : Int) (b : Int) = ((a ^^^ b : Nat) : Int) := by
  have hx : a ^^^ b < 2 ^ 62 := Nat.xor_lt_two_pow (by omega) (by omega)
  show IntKind.i64.wrap ((BitVec.ofInt 64 (a : Int) ^^^ BitVec.ofInt 64 (b : Int)).toNat : Int) = _
  rw [BitVec.toNat_xor, ofInt_u64 a (by omega), ofInt_u64 b (by omega)]
  exact i64_wn _ (by omega)
theorem log_down {x : Nat} (h : 1 < x) : Nat.log2 x = Nat.log2 (x / 2) + 1 := by rw [Nat.log2_def, if_pos (by omega)]
theorem log_one : Nat.log2 1 = 0 := by decide
set_option maxHeartbeats 400000 in
theorem l08Degree_any (P : Nat) (w : World) (h1 : 1 ≤ P) (h2 : P < 131072) :
    Calls Tryd.prog 40 #[.int .i64 (P : Int)] w fun e w' => e = .returned (.int .i64 ((Nat.log2 P : Nat) : Int)) ∧ w = w' := by
  have hl : Nat.log2 P ≤ 16 := by
    rcases Nat.lt_or_ge (Nat.log2 P) 17 with h | h
    · omega
    · have := Nat.pow_le_pow_right (show 0 < 2 by omega) h
      have := Nat.log2_self_le (show P ≠ 0 by omega)
      omega
  have HDN := Lib.hid (fun x h => @log_down x h)
  have HON := Lib.hid log_one
  obtain ⟨D, hD⟩ : ∃ D, D = Nat.log2 P := ⟨_, rfl⟩
  rw [← hD] at hl ⊢
  have HD := Lib.hid hD
  clear hD
  go_enter Tryd.func40, Tryd.ntmps40
  go_wp2_with fail
  go_loopw [0, 3] (fun p n wr => ∃ x k : Nat, p = .int .i64 (x : Int) ∧ n = .int .i64 (k : Int) ∧ 1 ≤ x ∧ x < 131072 ∧ k + Nat.log2 x = D ∧ wr = w) (fun p _ _ => (intOf p).toNat)
  case atStart => exact ⟨P, 0, rfl, rfl, h1, h2, by rw [HD.out]; omega, rfl⟩
  case round =>
    obtain ⟨x, k, rfl, rfl, x1, x2, hk, rfl⟩ := hrel
    have HK := Lib.hid hk
    have hkb : k ≤ 16 := by omega
    clear hk h1 h2
    by_cases hlt : 1 < x
    · have hx1 : (1 : Int) < (x : Int) := by omega
      have hx0 : (0 : Int) ≤ (x : Int) := by omega
      obtain ⟨y, hy⟩ : ∃ y, y = x / 2 := ⟨_, rfl⟩
      have e1 : (x : Int) / 2 = (y : Int) := by omega
      have HY : Hid (k + 1 + Nat.log2 y = D) := by show _ = _; have := HDN.out x hlt; have := HK.out; rw [hy]; omega
      have hy1 : 1 ≤ y := by omega
      have hyx : y < x := by omega
      clear hy
      go_wp2_with fail
      go_roundw
      case rel => exact ⟨y, k + 1, rfl, by go_num, hy1, by omega, HY.out, trivial⟩
      case measure => simp [intOf]; omega
    · obtain rfl : x = 1 := by omega
      have hk2 : k = D := by have := HK.out; rw [HON.out] at this; omega
      subst hk2
      clear HK HD
      go_wp2_with fail
      go_ret
      exact ⟨rfl, rfl⟩
theorem next_top {d t : Nat} (h : t < 2 ^ (d + 1)) : t.testBit d = decide (0 < t / 2 ^ d) := by
  rw [Nat.testBit_eq_decide_div_mod_eq]
  have : t / 2 ^ d < 2 := (Nat.div_lt_iff_lt_mul (Nat.two_pow_pos d)).2 (by rw [Nat.pow_succ] at h; omega)
  generalize t / 2 ^ d = q at *
  rw [decide_eq_decide]; omega
set_option maxHeartbeats 400000 in
theorem l08Next_any (P d r b : Nat) (w : World) (hg : Deg P d) (h16 : d ≤ 16) (hr : r < 2 ^ d) (hb : b < 2) :
    Calls Tryd.prog 42 #[.int .i64 (P : Int), .int .i64 (r : Int), .int .i64 (b : Int)] w fun e w' => e = .returned (.int .i64 ((nxR P d r b : Nat) : Int)) ∧ w = w' := by
  have h2 : 2 ^ d ≤ 65536 := Nat.pow_le_pow_right (by omega) h16
  have hP : P < 131072 := by have := hg.hi; rw [Nat.pow_succ] at this; omega
  have hP1 : 1 ≤ P := by have := hg.lo; have := Nat.two_pow_pos d; omega
  have HD := Lib.hid (fun W => l08Degree_any P W hP1 hP)
  rw [log_is hg] at HD
  have ht := twice_lt hr hb
  have e0 : IntKind.i64.wrap ((r : Int) * 2) = ((r * 2 : Nat) : Int) := by have := i64_wn (r * 2) (by omega); rw [← this]; congr 1
  have e1 : bits .or .i64 ((r * 2 : Nat) : Int) (b : Int) = ((2 * r + b : Nat) : Int) := by
    rw [i64_or_nat _ _ (by omega) (by omega)]
    congr 1
    have := Nat.two_pow_add_eq_or_of_lt (show b < 2 ^ 1 by omega) r
    rw [Nat.pow_one] at this
    rw [Nat.mul_comm r 2, ← this]
  obtain ⟨R2, hR2⟩ : ∃ R2, R2 = r * 2 := ⟨_, rfl⟩
  rw [← hR2] at e0 e1
  have hnx : nxR P d r b = if (2 * r + b).testBit d then (2 * r + b) ^^^ P else 2 * r + b := rfl
  rw [hnx, next_top ht]
  obtain ⟨t, htt⟩ : ∃ t, t = 2 * r + b := ⟨_, rfl⟩
  rw [← htt] at e1 ht ⊢
  have htb : t < 131072 := by omega
  have ex : bits .xor .i64 (t : Int) (P : Int) = ((t ^^^ P : Nat) : Int) := i64_xor_nat _ _ (by omega) (by omega)
  obtain ⟨q, hq1⟩ : ∃ q, q = t / 2 ^ d := ⟨_, rfl⟩
  have eq : (t : Int) / 2 ^ d = (q : Int) := by rw [hq1, Int.natCast_ediv]; congr 1
  rw [← hq1]
  have hm : min d 64 = d := by omega
  have hd0 : (0 : Int) ≤ (d : Int) := by omega
  have ed : IntKind.u64.wrap (d : Int) = (d : Int) := u64_w d (by omega)
  have er : IntKind.i64.wrap (r : Int) = (r : Int) := i64_wn r (by omega)
  clear hg hr hb h2 hP hP1 ht hR2 hnx htt hq1
  by_cases h : 0 < q
  · rw [decide_eq_true h, if_pos rfl]
    have hq : (0 : Int) < (q : Int) := by omega
    go_enter Tryd.func42, Tryd.ntmps42
    go_wp2_with fail
    refine (HD.out _).mono ?_; rintro e w' ⟨rfl, rfl⟩
    go_wp2_with fail
    go_ret
    exact ⟨rfl, rfl⟩
  · rw [decide_eq_false h, if_neg (by decide)]
    have hq : ¬ (0 : Int) < (q : Int) := by omega
    clear ex
    go_enter Tryd.func42, Tryd.ntmps42
    go_wp2_with fail
    refine (HD.out _).mono ?_; rintro e w' ⟨rfl, rfl⟩
    go_wp2_with fail
    go_ret
    exact ⟨rfl, rfl⟩
theorem nb_snoc8 (l : List Nat) (k : Nat) (hk : k < l.length) : nbits (l.take (k + 1)) 0 = 2 * nbits (l.take k) 0 + l[k] := by
  have e : l.take (k + 1) = l.take k ++ [l[k]] := by rw [List.take_add_one]; simp [hk]
  rw [e, nbits_snoc]
set_option maxHeartbeats 400000 in
theorem l08Rest_any (P d : Nat) (s : ByteArray) (w : World) (hg : Deg P d) (h16 : d ≤ 16) (hs : isB s.data.toList = true) :
    Calls Tryd.prog 41 #[.int .i64 (P : Int), .string s] w fun e w' => e = .returned (.int .i64 ((rd P d (nbits (btN s.data.toList) 0) : Nat) : Int)) ∧ w = w' := by
  obtain ⟨h400, hin⟩ := isB_two hs
  have hsz : s.size ≤ 400 := h400
  have HIN := Lib.hid (fun k hk => inR_at 48 49 s k hk hin)
  have HNX := Lib.hid (fun r b W hr hb => l08Next_any P d r b W hg h16 hr hb)
  have HLT := Lib.hid (fun n => rd_lt hg n)
  have HLEN : Hid ((btN s.data.toList).length = s.size) := btN_len _
  have HST : Hid (∀ k (hk : k < s.size), rd P d (nbits ((btN s.data.toList).take (k + 1)) 0) = nxR P d (rd P d (nbits ((btN s.data.toList).take k) 0)) (s[k].toNat - 48)) := by
    show ∀ k (hk : k < s.size), _
    intro k hk
    have hkl : k < (btN s.data.toList).length := by rw [HLEN.out]; exact hk
    have e : (btN s.data.toList)[k] = s[k].toNat - 48 := by simp [btN]; rfl
    have hb := inR_btN hin _ (List.getElem_mem hkl)
    rw [nb_snoc8 _ k hkl, rd_two _ _ _ _ hb, e]
  have HZ : Hid (rd P d (nbits ((btN s.data.toList).take 0) 0) = 0) := by show _ = _; rw [List.take_zero, show nbits [] 0 = 0 from rfl, rd_zero]
  have HALL : Hid ((btN s.data.toList).take s.size = btN s.data.toList) := by show _ = _; rw [← HLEN.out, List.take_length]
  clear h400 hin hs hg
  go_enter Tryd.func41, Tryd.ntmps41
  go_wp2_with fail
  go_loopw [5, 6] (fun r i wr => ∃ k : Nat, k ≤ s.size ∧ i = .int .i64 k ∧ r = .int .i64 ((rd P d (nbits ((btN s.data.toList).take k) 0) : Nat) : Int) ∧ wr = w) (fun _ i _ => s.size - (intOf i).toNat)
  case atStart => exact ⟨0, Nat.zero_le _, rfl, by rw [HZ.out]; rfl, rfl⟩
  case round =>
    obtain ⟨k, hk, rfl, rfl, rfl⟩ := hrel
    by_cases hlt : k < s.size
    · have hk0 : (0 : Int) ≤ (k : Int) := by omega
      have hk1 : (k : Int) < (s.size : Int) := by omega
      have hbd := HIN.out k hlt
      have hst := HST.out k hlt
      obtain ⟨x, hx⟩ : ∃ x, x = s[k].toNat - 48 := ⟨_, rfl⟩
      have hx2 : x < 2 := by omega
      have eX : ((s[k]).toNat : Int) = (x : Int) + 48 := by omega
      rw [← hx] at hst
      have HT := Lib.hid (HNX.out _ x wr (HLT.out (nbits ((btN s.data.toList).take k) 0)) hx2)
      rw [← hst] at HT
      have eW : IntKind.u8.wrap ((x : Int) + 48 - 48) = (x : Int) := by have := u8_w x; rw [show x % 256 = x by omega] at this; rw [← this]; congr 1; omega
      have eW2 : IntKind.u8.wrap (x : Int) = (x : Int) := by have := u8_w x; rwa [show x % 256 = x by omega] at this
      have eI : IntKind.i64.wrap (x : Int) = (x : Int) := i64_wn x (by omega)
      have hx0 : (0 : Int) ≤ (x : Int) := by omega
      have hx1 : (x : Int) ≤ 1 := by omega
      clear hst hx hbd HST HIN HLT HZ HALL
      generalize rd P d (nbits ((btN s.data.toList).take k) 0) = R0 at *
      obtain ⟨R1, hR1⟩ : ∃ R1, R1 = rd P d (nbits ((btN s.data.toList).take (k + 1)) 0) := ⟨_, rfl⟩
      rw [← hR1] at HT
      have HR := Lib.hid hR1
      clear hR1
      go_wp2_with fail
      refine HT.out.mono ?_; rintro e w' ⟨rfl, rfl⟩
      go_wp2_with fail
      go_roundw
      case rel => exact ⟨k + 1, by omega, by go_num, by rw [HR.out], trivial⟩
      case measure => simp [intOf]; omega
    · obtain rfl : k = s.size := by omega
      rw [HALL.out]
      clear HST HIN HNX HLT HZ HALL HLEN
      go_wp2_with fail
      go_ret
      exact ⟨rfl, rfl⟩
end Go.Proofs.YtkgfmpkpeipddabDoor
