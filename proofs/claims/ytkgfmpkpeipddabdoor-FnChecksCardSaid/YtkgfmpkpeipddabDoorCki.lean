/- The program's CheckBits, AddCheck, HasCheck; the model's AddCheck, HasCheck. -/
import Derived.Test.YtkgfmpkpeipddabDoorCkn
import Derived.Test.YtkgfmpkpeipddabDoorDvo
namespace Go.Proofs.YtkgfmpkpeipddabDoor
open Go Go.RowKit
set_option linter.unusedVariables false

theorem rd_again {p d : Nat} (hg : Deg p d) (n k : Nat) : rd p d (rd p d n * 2 ^ k) = rd p d (n * 2 ^ k) := by
  have := rd_shift hg n k 0 (Nat.two_pow_pos k)
  simpa using this
theorem bytes_rd {P : Nat} {l : List UInt8} (h : isB l = true) : vb (dby (nbits (btN l) 0) ((l.length + 7) / 8)) 0 = nbl l := by
  have := vb_all (btN l) (inR_btN (isB_two h).2)
  rwa [btN_len] at this
set_option maxRecDepth 100000 in
set_option maxHeartbeats 2000000 in
theorem checkBits_impl (p : Int) (s : ByteArray) (w : World) (hs : s.size ≤ maxLen) (a : Addr) (hv : Ev 0 a w) :
    Calls Tryd.prog 13 #[.int .i64 p, .string s] w fun e w' => e = .returned (.tuple #[.string (cbV p s.data.toList), .bool (ckOk p s.data.toList)]) ∧ Below w.heap.size w w' := by
  cases g0 : ckB p
  · have hb : ckOk p s.data.toList = false := by unfold ckOk; rw [g0]; rfl
    rw [cb_no hb, hb]
    have HC := Lib.hid (dividerOf_no p a w hv g0)
    clear g0 hb hs hv
    go_enter Tryd.func13, Tryd.ntmps13
    go_wp2_with fail
    refine HC.out.mono ?_; rintro e w1 ⟨rfl, hb1⟩
    have B1 := Lib.hid hb1
    clear hb1
    go_wp2_with fail
    go_ret2
    exact ⟨rfl, B1.out⟩
  · have HT := Lib.hid (fun W => isBits_any s W hs)
    have HC := Lib.hid (dividerOf_yes p w g0)
    cases g1 : isB s.data.toList
    · have hb : ckOk p s.data.toList = false := by unfold ckOk; rw [g0, g1]; rfl
      rw [cb_no hb, hb]
      rw [g1] at HT
      clear g0 g1 hb hs hv
      go_enter Tryd.func13, Tryd.ntmps13
      go_wp2_with fail
      refine HC.out.mono ?_; rintro e w1 ⟨b, rfl, hlo, hd1, hb1⟩
      have B1 := Lib.hid hb1
      clear hb1 hd1 hlo
      go_wp2_with fail
      refine (HT.out _).mono ?_; rintro e w2 ⟨rfl, hb2⟩
      have B2 := Lib.hid (B1.out.trans (hb2.mono B1.out.size))
      clear hb2
      go_wp2_with fail
      go_ret2
      exact ⟨rfl, B2.out⟩
    · have hb : ckOk p s.data.toList = true := by unfold ckOk; rw [g0, g1]; rfl
      rw [cb_yes hb, hb]
      rw [g1] at HT
      obtain ⟨P, rfl, p1, p2, hg, p4, p5⟩ := ck_nat g0
      rw [Int.toNat_natCast] at HC ⊢
      have HBT := Lib.hid (fun W => bot_any s W g1)
      have hvb := bytes_rd (P := P) g1
      have HRB := Lib.hid (fun b v W hd hr => rob_any b P (Nat.log2 P) v _ W hd hr (dby_lt (nbits (btN s.data.toList) 0) ((s.size + 7) / 8)) hg p4)
      rw [show s.data.toList.length = s.size from rfl] at hvb
      rw [hvb] at HRB
      have HRM := Lib.hid (fun b m W hd hm => rom_any b P (Nat.log2 P) m W hd hm hg p4)
      have HAG := Lib.hid (rd_again hg (nbl s.data.toList) (Nat.log2 P))
      have hcb : cbL P s.data.toList = digs ((rd P (Nat.log2 P) (nbl s.data.toList * 2 ^ Nat.log2 P) : Nat) : Int) (Nat.log2 P) (Nat.log2 P) := rfl
      have hlt1 := rd_lt hg (nbl s.data.toList)
      have hlt2 := rd_lt hg (nbl s.data.toList * 2 ^ Nat.log2 P)
      rw [hcb]
      obtain ⟨D, hD⟩ : ∃ D, D = Nat.log2 P := ⟨_, rfl⟩
      rw [← hD] at HC HRB HRM HAG hlt1 hlt2 p4 p5 ⊢
      have h2 : 2 ^ D ≤ 65536 := Nat.pow_le_pow_right (by omega) p4
      obtain ⟨R, hR⟩ : ∃ R, R = rd P D (nbl s.data.toList) := ⟨_, rfl⟩
      obtain ⟨X, hX⟩ : ∃ X, X = rd P D (nbl s.data.toList * 2 ^ D) := ⟨_, rfl⟩
      rw [← hR] at HRB HAG hlt1
      rw [← hX] at HAG hlt2 ⊢
      have hRD : R * 2 ^ D < 4294967296 := by
        have := Nat.mul_le_mul (show R ≤ 65535 by omega) h2
        omega
      obtain ⟨S, hS⟩ : ∃ S, S = R * 2 ^ D := ⟨_, rfl⟩
      have eS : IntKind.u64.wrap ((R : Int) * 2 ^ D) = (S : Int) := by
        have := u64_w S (by omega)
        rw [← this]; congr 1; rw [hS, Int.natCast_mul]; rfl
      rw [← hS] at HAG hRD
      have hXb : (X : Int) < 2 ^ D := by
        have : ((2 ^ D : Nat) : Int) = (2 : Int) ^ D := by rw [Int.natCast_pow]; rfl
        omega
      have HBO := Lib.hid (fun W => bitsOf_yes_impl (X : Int) D W (by omega) (by omega) hXb)
      have eX : IntKind.i64.wrap (X : Int) = (X : Int) := i64_wn X (by omega)
      have hm : min D 64 = D := by omega
      have hd0 : (0 : Int) ≤ (D : Int) := by omega
      have HAG2 := Lib.hid HAG.out
      have HLD : Hid (S < 4294967296) := hRD
      have HRX : Hid (∀ b W, Dv W b P D (tlA P D) 0 → Calls Tryd.prog 39 #[.pointer (some ⟨b, 0, none⟩), .int .u64 (S : Int)] W fun o W' => o = .returned (.int .u64 (X : Int)) ∧ Dv W' b P D (tlA P D) 0 ∧ Only b W W') := by
        show ∀ b W, _
        intro b W hd
        have := HRM.out b S W hd HLD.out
        rw [HAG2.out] at this
        exact this
      clear HRM HLD HAG2
      clear hXb g0 g1 hb hs hv hg p1 p2 p4 p5 hvb hcb hlt1 hlt2 hD h2 hR hX hS HAG hRD
      generalize dby (nbits (btN s.data.toList) 0) ((s.size + 7) / 8) = B at *
      go_enter Tryd.func13, Tryd.ntmps13
      go_wp2_with fail
      refine HC.out.mono ?_; rintro e w1 ⟨b, rfl, hlo, hd1, hb1⟩
      have B1 := Lib.hid hb1
      have D1 := Lib.hid hd1
      clear hb1 hd1
      go_wp2_with fail
      refine (HT.out _).mono ?_; rintro e w2 ⟨rfl, hb2⟩
      have B2 := Lib.hid (B1.out.trans (hb2.mono B1.out.size))
      have D2 := Lib.hid (D1.out.keep hb2)
      have d2 := D2.out.cd
      have hl2 := D2.out.lt
      have S2 := B2.out.size
      clear hb2 D1
      go_wp2_with fail
      go_region_with (first
        | (go_at_call 37; refine (HBT.out _).mono ?_; rintro e w3 ⟨v3, rfl, hr3, hb3⟩; have R3 := Lib.hid (hr3 b hl2); have D3 := Lib.hid (D2.out.keep (Below.trans ((Below.refl _ _).drew) hb3)); have d3 := D3.out.cd; have B3 := Lib.hid (B2.out.trans ((Below.trans ((Below.refl _ _).drew) hb3).mono S2)); clear hr3 hb3)
        | (go_at_call 36; refine (HRB.out _ _ _ D3.out R3.out).mono ?_; rintro e w4 ⟨rfl, hd4, ho4⟩; have D4 := Lib.hid hd4; have d4 := D4.out.cd; have B4 := Lib.hid (ho4.below B3.out hlo B3.out.size); clear hd4 ho4))
      all_goals
        go_wp2_with fail
        have S4 := B4.out.size
        go_region_with (first
          | (go_at_call 39; refine (HRX.out _ _ (D4.out.keep (Below.refl _ _).drew)).mono ?_; rintro e w5 ⟨rfl, hd5, ho5⟩; have D5 := Lib.hid hd5; have d5 := D5.out.cd; have B5 := Lib.hid (ho5.below B4.out.drew hlo S4); clear hd5 ho5)
          | (go_at_call 38; refine (HBO.out _).mono ?_; rintro e w6 ⟨rfl, hb6⟩; have B6 := Lib.hid (B5.out.trans (hb6.mono B5.out.size)); clear hb6))
        all_goals
          go_wp2_with fail
          go_ret2
          exact ⟨rfl, B6.out⟩
end Go.Proofs.YtkgfmpkpeipddabDoor
