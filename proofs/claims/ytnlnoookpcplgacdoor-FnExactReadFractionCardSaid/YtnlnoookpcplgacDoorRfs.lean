/- The contract of the model's ReadFraction. -/
import Derived.Test.YtnlnoookpcplgacDoorRfr
import Derived.Test.YtnlnoookpcplgacDoorBk
namespace Go.Proofs.YtnlnoookpcplgacDoor
open Go Go.RowKit
set_option linter.unusedVariables false

set_option maxRecDepth 100000 in
set_option maxHeartbeats 1600000 in
theorem fread_spec (s : ByteArray) (hs : s.size ≤ 1048576) (w : World) :
    Calls Tryd.prog 17 #[.string s] w fun e w' => e = .returned (.tuple #[.agg #[.int .i64 (FR s.data.toList).1, .int .i64 (FR s.data.toList).2.1], .bool (FR s.data.toList).2.2]) ∧ Below w.heap.size w w' := by
  have HGR := Lib.hid (fun t h W => great_any t h W)
  have HS := Lib.hid hs
  have BB : Hid (Below w.heap.size w (w.alloc (.cells #[.int .i64 0, .int .i64 0] 23))) := (Below.refl _ _).alloc (Nat.le_refl _) _
  have R0 := Lib.hid (Bk.new w [.int .i64 0, .int .i64 0] 23 w.heap.size rfl)
  go_enter Tryd.func17, Tryd.ntmps17
  go_wp2_with fail
  go_loopw [4] (fun i wr => ∃ k : Nat, k ≤ s.size ∧ i = .int .i64 k ∧ (∀ j (h : j < s.size), j < k → s[j] ≠ 47) ∧ wr = w.alloc (.cells #[.int .i64 0, .int .i64 0] 23)) (fun i _ => s.size - (intOf i).toNat)
  case atStart => exact ⟨0, Nat.zero_le _, rfl, fun _ _ h => absurd h (Nat.not_lt_zero _), rfl⟩
  case round =>
    obtain ⟨k, hk, rfl, hb, rfl⟩ := hrel
    by_cases hlt : k < s.size
    · by_cases h47 : s[k] = 47
      · have h1 : (s[k].toNat : Int) = 47 := by rw [h47]; rfl
        have h2 : ((s[k].toNat : Int) == 47) = true := by simpa using h1
        have h3 : s[k].toNat = 47 := by omega
        have hka : s.data.toList[k]? = some 47 := by rw [List.getElem?_eq_getElem (show k < s.data.toList.length from hlt)]; exact congrArg some h47
        have ea : (s.extract 0 k).data.toList = s.data.toList.take k := by simp
        have eb : (s.extract (k + 1) s.size).data.toList = s.data.toList.drop (k + 1) := ext_drop s k
        have hc := cut_yes hka (fun j hj e => by rw [List.getElem?_eq_getElem (show j < s.data.toList.length from Nat.lt_trans hj hlt)] at e; exact hb j (Nat.lt_trans hj hlt) hj (Option.some.inj e))
        have hsp := split_at hka
        rw [← ea, ← eb] at hc hsp
        have za : (s.extract 0 k).size ≤ 1048576 := by have := HS.out; simp; omega
        have zb : (s.extract (k + 1) s.size).size ≤ 1048576 := by have := HS.out; simp; omega
        have HA := Lib.hid (fun W => HGR.out _ za W)
        have HB := Lib.hid (fun W => HGR.out _ zb W)
        have HC := Lib.hid (And.intro hc hsp)
        clear hka ea eb hc hsp za zb HGR
        go_wp2_with fail
        refine (HA.out _).mono ?_; rintro e w1 ⟨n, one, rfl, hga, hb1⟩
        have R1 := Lib.hid (R0.out.keep hb1)
        have B1 := Lib.hid (BB.out.trans (hb1.mono BB.out.size))
        have GA := Lib.hid (gr_rd hga)
        clear hb1 hga
        go_wp2_with fail
        refine (HB.out _).mono ?_; rintro e w2 ⟨d, two, rfl, hgb, hb2⟩
        have GB := Lib.hid (gr_rd hgb)
        generalize s.extract 0 k = a at *
        generalize s.extract (k + 1) s.size = b at *
        have R2 := Lib.hid ((R1.out.keep hb2).alloc (.cells #[.int .i64 n, .int .i64 d] 23))
        have B2 : Hid (Below w.heap.size w (w2.alloc (.cells #[.int .i64 n, .int .i64 d] 23))) := (B1.out.trans (hb2.mono B1.out.size)).alloc (B1.out.trans (hb2.mono B1.out.size)).size _
        have X2 := Lib.hid (Bk.new w2 [.int .i64 n, .int .i64 d] 23 w2.heap.size rfl)
        clear hb2 hgb HA HB R1 B1
        obtain ⟨hc, hsp⟩ := HC.out
        obtain ⟨ga, ga2⟩ := GA.out
        obtain ⟨gb, gb2⟩ := GB.out
        clear HC GA GB
        cases one
        · have F := Lib.hid (FR_not hc (fun e => by rw [← ga] at e; exact absurd e.1 (by simp)))
          clear hc hsp ga gb ga2 gb2
          have q0 := R2.out.c 0 _ rfl
          have q1 := R2.out.c 1 _ rfl
          have q2 := R2.out.f 0 (by show 0 < 2; omega)
          have q3 := R2.out.f 1 (by show 1 < 2; omega)
          go_wp2_with fail
          refine bodyPost_ret (v := .tuple #[.agg #[.int .i64 0, .int .i64 0], .bool false]) (by simp [results, Tryd.results17, go_sem, q0, q1]) rfl ⟨by rw [F.out], ?_⟩
          exact (B2.out.setCell (by simp) _).setCell (by simp) _
        cases two
        · have F := Lib.hid (FR_not hc (fun e => by rw [← gb] at e; exact absurd e.2.1 (by simp)))
          clear hc hsp ga gb ga2 gb2
          have q0 := R2.out.c 0 _ rfl
          have q1 := R2.out.c 1 _ rfl
          have q2 := R2.out.f 0 (by show 0 < 2; omega)
          have q3 := R2.out.f 1 (by show 1 < 2; omega)
          go_wp2_with fail
          refine bodyPost_ret (v := .tuple #[.agg #[.int .i64 0, .int .i64 0], .bool false]) (by simp [results, Tryd.results17, go_sem, q0, q1]) rfl ⟨by rw [F.out], ?_⟩
          exact (B2.out.setCell (by simp) _).setCell (by simp) _
        obtain ⟨n1, n2, n3, n4⟩ := ga2 rfl
        obtain ⟨d1, d2, d3, d4⟩ := gb2 rfl
        clear ga2 gb2
        have HF := Lib.hid (fun W => l01FIs_any n d W)
        have HT := Lib.hid (fun W => l01FText_any n d W (by omega) (by omega) (by omega) (by omega))
        cases hf : fIs n d
        · have F := Lib.hid (FR_not hc (fun e => by rw [← n1, ← d1, hf] at e; exact absurd e.2.2.1 (by simp)))
          rw [hf] at HF
          clear hc hsp ga gb hf HT n1 n2 n3 n4 d1 d2 d3 d4
          have x0 := X2.out.c 0 _ rfl
          have x1 := X2.out.c 1 _ rfl
          go_wp2_with fail
          refine (HF.out _).mono ?_; rintro e w3 ⟨rfl, hb3⟩
          have R3 := Lib.hid (R2.out.keep hb3)
          have X3 := Lib.hid (X2.out.keep hb3)
          have B3 := Lib.hid (B2.out.trans (hb3.mono B2.out.size))
          clear hb3
          clear x0 x1
          have q0 := R3.out.c 0 _ rfl
          have q1 := R3.out.c 1 _ rfl
          have q2 := R3.out.f 0 (by show 0 < 2; omega)
          have q3 := R3.out.f 1 (by show 1 < 2; omega)
          go_wp2_with fail
          refine bodyPost_ret (v := .tuple #[.agg #[.int .i64 0, .int .i64 0], .bool false]) (by simp [results, Tryd.results17, go_sem, q0, q1]) rfl ⟨by rw [F.out], ?_⟩
          exact (B3.out.setCell (by simp) _).setCell (by simp) _
        rw [hf] at HF
        by_cases hd : d = 1
        · have F := Lib.hid (FR_not hc (fun e => e.2.2.2 (d1.symm.trans hd)))
          have hz := fT_else (n := n) (d := d) (by rw [n2, d2]; exact hsp) hd
          generalize fT n d = t at HT hz
          clear hc hsp ga gb hf n1 n2 n3 n4 d1 d2 d3 d4 hd
          have x0 := X2.out.c 0 _ rfl
          have x1 := X2.out.c 1 _ rfl
          go_wp2_with fail
          refine (HF.out _).mono ?_; rintro e w3 ⟨rfl, hb3⟩
          have R3 := Lib.hid (R2.out.keep hb3)
          have X3 := Lib.hid (X2.out.keep hb3)
          have B3 := Lib.hid (B2.out.trans (hb3.mono B2.out.size))
          clear hb3
          clear x0 x1
          have x0 := X3.out.c 0 _ rfl
          have x1 := X3.out.c 1 _ rfl
          go_wp2_with fail
          refine (HT.out _).mono ?_; rintro e w4 ⟨rfl, hb4⟩
          have R4 := Lib.hid (R3.out.keep hb4)
          have X4 := Lib.hid (X3.out.keep hb4)
          have B4 := Lib.hid (B3.out.trans (hb4.mono B3.out.size))
          clear hb4
          clear x0 x1
          have q0 := R4.out.c 0 _ rfl
          have q1 := R4.out.c 1 _ rfl
          have q2 := R4.out.f 0 (by show 0 < 2; omega)
          have q3 := R4.out.f 1 (by show 1 < 2; omega)
          go_wp2_with fail
          refine bodyPost_ret (v := .tuple #[.agg #[.int .i64 0, .int .i64 0], .bool false]) (by simp [results, Tryd.results17, go_sem, q0, q1]) rfl ⟨by rw [F.out], ?_⟩
          exact (B4.out.setCell (by simp) _).setCell (by simp) _
        · have F := Lib.hid (FR_yes hc ga.symm gb.symm (by rw [← n1, ← d1]; exact hf) (by rw [← d1]; exact hd))
          have hz := fT_self (n := n) (d := d) (by rw [n2, d2]; exact hsp) hd
          rw [← n1, ← d1] at F
          generalize fT n d = t at HT hz
          clear hc hsp ga gb hf n1 n2 n3 n4 d1 d2 d3 d4 hd
          have x0 := X2.out.c 0 _ rfl
          have x1 := X2.out.c 1 _ rfl
          go_wp2_with fail
          refine (HF.out _).mono ?_; rintro e w3 ⟨rfl, hb3⟩
          have R3 := Lib.hid (R2.out.keep hb3)
          have X3 := Lib.hid (X2.out.keep hb3)
          have B3 := Lib.hid (B2.out.trans (hb3.mono B2.out.size))
          clear hb3
          clear x0 x1
          have x0 := X3.out.c 0 _ rfl
          have x1 := X3.out.c 1 _ rfl
          go_wp2_with fail
          refine (HT.out _).mono ?_; rintro e w4 ⟨rfl, hb4⟩
          have R4 := Lib.hid (R3.out.keep hb4)
          have X4 := Lib.hid (X3.out.keep hb4)
          have B4 := Lib.hid (B3.out.trans (hb4.mono B3.out.size))
          clear hb4
          clear x0 x1
          have x0 := X4.out.c 0 _ rfl
          have x1 := X4.out.c 1 _ rfl
          have q0 := R4.out.c 0 _ rfl
          have q1 := R4.out.c 1 _ rfl
          have q2 := R4.out.f 0 (by show 0 < 2; omega)
          have q3 := R4.out.f 1 (by show 1 < 2; omega)
          go_wp2_with fail
          refine bodyPost_ret (v := .tuple #[.agg #[.int .i64 n, .int .i64 d], .bool true]) (by simp [results, Tryd.results17, go_sem, q0, q1]) rfl ⟨by rw [F.out], ?_⟩
          exact (B4.out.setCell (by simp) _).setCell (by simp) _
      · have h1 : ¬ (s[k].toNat : Int) = 47 := by
          intro e
          refine h47 (UInt8.toNat_inj.1 ?_)
          have e2 : (47 : UInt8).toNat = 47 := rfl
          omega
        have h2 : ((s[k].toNat : Int) == 47) = false := by simpa using h1
        have h3 : ¬ s[k].toNat = 47 := by omega
        go_wp2_with fail
        go_roundw
        case rel => exact ⟨k + 1, by omega, by go_num, fun j hj h => by
          rcases Nat.lt_or_ge j k with h' | h'
          · exact hb j hj h'
          · obtain rfl : j = k := by omega
            exact h47, by first | rfl | trivial⟩
        case measure => simp [intOf]; omega
    · obtain rfl : k = s.size := by omega
      have hc := cut_no (l := s.data.toList) (fun j e => by
        have hj : j < s.data.toList.length := by
          rcases Nat.lt_or_ge j s.data.toList.length with h' | h'
          · exact h'
          · rw [List.getElem?_eq_none h'] at e; cases e
        rw [List.getElem?_eq_getElem hj] at e
        exact hb j hj hj (Option.some.inj e))
      go_wp2_with fail
      refine (HGR.out s HS.out _).mono ?_; rintro e w1 ⟨n, one, rfl, hg, hb1⟩
      obtain ⟨g1, g2⟩ := gr_rd hg
      have R2 := Lib.hid ((R0.out.keep hb1).alloc (.cells #[.int .i64 n, .int .i64 1] 23))
      have B2 : Hid (Below w.heap.size w (w1.alloc (.cells #[.int .i64 n, .int .i64 1] 23))) := (BB.out.trans (hb1.mono BB.out.size)).alloc (BB.out.trans (hb1.mono BB.out.size)).size _
      have X2 := Lib.hid (Bk.new w1 [.int .i64 n, .int .i64 1] 23 w1.heap.size rfl)
      clear hb1 hg
      cases one
      · have F := Lib.hid (FR_no hc g1.symm)
        clear hc g1 g2
        have q0 := R2.out.c 0 _ rfl
        have q1 := R2.out.c 1 _ rfl
        have q2 := R2.out.f 0 (by show 0 < 2; omega)
        have q3 := R2.out.f 1 (by show 1 < 2; omega)
        go_wp2_with fail
        refine bodyPost_ret (v := .tuple #[.agg #[.int .i64 0, .int .i64 0], .bool false]) (by simp [results, Tryd.results17, go_sem, q0, q1]) rfl ⟨by rw [F.out], ?_⟩
        exact (B2.out.setCell (by simp) _).setCell (by simp) _
      · obtain ⟨e1, e2, e3, e4⟩ := g2 rfl
        have F := Lib.hid (FR_whole hc g1.symm)
        have HF := Lib.hid (fun W => l01FIs_any n 1 W)
        rw [fIs_one e3 e4] at HF
        have HT := Lib.hid (fun W => l01FText_any n 1 W (by omega) (by omega) (by omega) (by omega))
        have ht : fT n 1 = s := by rw [fT_one, e2]
        rw [ht] at HT
        subst e1
        clear hc g1 g2 ht e2 e3 e4
        have q0 := R2.out.c 0 _ rfl
        have q1 := R2.out.c 1 _ rfl
        have q2 := R2.out.f 0 (by show 0 < 2; omega)
        have q3 := R2.out.f 1 (by show 1 < 2; omega)
        go_wp2_with fail
        refine (HF.out _).mono ?_; rintro e w2 ⟨rfl, hb2⟩
        have R3 := Lib.hid (R2.out.keep hb2)
        have X3 := Lib.hid (X2.out.keep hb2)
        have B3 := Lib.hid (B2.out.trans (hb2.mono B2.out.size))
        clear hb2 q0 q1 q2 q3
        have x0 := X3.out.c 0 _ rfl
        have x1 := X3.out.c 1 _ rfl
        go_wp2_with fail
        refine (HT.out _).mono ?_; rintro e w3 ⟨rfl, hb3⟩
        have R4 := Lib.hid (R3.out.keep hb3)
        have X4 := Lib.hid (X3.out.keep hb3)
        have B4 := Lib.hid (B3.out.trans (hb3.mono B3.out.size))
        clear hb3 x0 x1
        have x0 := X4.out.c 0 _ rfl
        have x1 := X4.out.c 1 _ rfl
        have q0 := R4.out.c 0 _ rfl
        have q1 := R4.out.c 1 _ rfl
        have q2 := R4.out.f 0 (by show 0 < 2; omega)
        have q3 := R4.out.f 1 (by show 1 < 2; omega)
        have hz : (s.toList == s.toList) = true := by simp
        go_wp2_with fail
        refine bodyPost_ret (v := .tuple #[.agg #[.int .i64 (rdN MP s.data.toList), .int .i64 1], .bool true]) (by simp [results, Tryd.results17, go_sem, q0, q1]) rfl ⟨by rw [F.out], ?_⟩
        exact (B4.out.setCell (by simp) _).setCell (by simp) _
end Go.Proofs.YtnlnoookpcplgacDoor
