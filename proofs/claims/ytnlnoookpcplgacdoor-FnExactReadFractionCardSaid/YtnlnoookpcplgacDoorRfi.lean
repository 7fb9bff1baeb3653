/- The contract of the program's ReadFraction. -/
import Derived.Test.YtnlnoookpcplgacDoorRfr
import Derived.Test.YtnlnoookpcplgacDoorBk
import Derived.Test.YtnlnoookpcplgacDoorShelfT
namespace Go.Proofs.YtnlnoookpcplgacDoor
open Go Go.RowKit
set_option linter.unusedVariables false

theorem cut_len (l x : List UInt8) : (Lib.cut l x).1.length ≤ l.length ∧ (Lib.cut l x).2.1.length ≤ l.length := by
  unfold Lib.cut
  split
  · exact ⟨by simp [List.length_take]; omega, by simp [List.length_drop]⟩
  · exact ⟨Nat.le_refl _, Nat.zero_le _⟩
theorem cut_false {l x a b : List UInt8} (h : Lib.cut l x = (a, b, false)) : a = l ∧ b = [] := by
  unfold Lib.cut at h
  split at h
  · cases h
  · cases h; exact ⟨rfl, rfl⟩
theorem below_drewN2 {B : Nat} {w w' : World} (h : Below B w w') (q : Nat) : Below B w (w'.drewN q) := ⟨h.os, h.tape, h.output, by simpa using h.size, fun k hk => by simpa using h.block k hk⟩

set_option maxRecDepth 100000 in
set_option maxHeartbeats 1600000 in
theorem fread_impl (s : ByteArray) (hs : s.size ≤ 1048576) (m : Int) (w : World) (hm : w.cell? ⟨0, 0, none⟩ = some (.int .i64 m)) (hv : Vars w) :
    Calls Tryd.prog 7 #[.string s] w fun e w' => e = .returned (.tuple #[.agg #[.int .i64 (FR s.data.toList).1, .int .i64 (FR s.data.toList).2.1], .bool (FR s.data.toList).2.2]) ∧ Below w.heap.size w w' := by
  have hl := cut_len s.data.toList [47]
  have hz : s.data.toList.length = s.size := rfl
  have CU := Lib.hid (fun W h => Tryd.strings_Cut s ⟨#[47]⟩ m W (by omega) h)
  rw [show (⟨#[47]⟩ : ByteArray).data.toList = [47] from rfl] at CU
  obtain ⟨a, b, f, hc⟩ : ∃ a b f, Lib.cut s.data.toList [47] = (a, b, f) := ⟨_, _, _, rfl⟩
  rw [hc] at hl CU
  obtain ⟨za, zb⟩ : a.length ≤ s.data.toList.length ∧ b.length ≤ s.data.toList.length := hl
  have BB : Hid (Below w.heap.size w (w.alloc (.cells #[.int .i64 0, .int .i64 0] 23))) := (Below.refl _ _).alloc (Nat.le_refl _) _
  have R0 := Lib.hid (Bk.new w [.int .i64 0, .int .i64 0] 23 w.heap.size rfl)
  have HM : Hid ((w.alloc (.cells #[.int .i64 0, .int .i64 0] 23)).cell? ⟨0, 0, none⟩ = some (.int .i64 m)) := (BB.out.cell (World.block_lt_of_cell? w _ hm)).trans hm
  have HV := Lib.hid hv
  have RA : Hid (∀ W, Vars W → Calls Tryd.prog 19 #[.string ⟨a.toArray⟩, .int .i64 MP] W fun e w' => e = .returned (.tuple #[.int .i64 (rdN MP a), .bool (rdOk MP a)]) ∧ Below W.heap.size W w') := Lib.hid (fun W h => readNumber_any ⟨a.toArray⟩ (by show a.toArray.size ≤ _; simp; omega) MP (by unfold MP; omega) (by unfold MP; omega) W h)
  have NA := @rd_true MP a
  have NB := @rd_true MP b
  clear hm hv
  cases f
  · obtain ⟨rfl, rfl⟩ := cut_false hc
    have es : (⟨s.data.toList.toArray⟩ : ByteArray) = s := by cases s; simp
    rw [es] at CU RA
    have RB : Hid (∀ W, Vars W → Calls Tryd.prog 19 #[.string ⟨#[49]⟩, .int .i64 MP] W fun e w' => e = .returned (.tuple #[.int .i64 1, .bool true]) ∧ Below W.heap.size W w') := by
      have h := fun W h => readNumber_any ⟨#[49]⟩ (by show 1 ≤ _; omega) MP (by unfold MP; omega) (by unfold MP; omega) W h
      rw [show (⟨#[49]⟩ : ByteArray).data.toList = [49] from rfl, one_text.1, one_text.2] at h
      exact Lib.hid h
    cases ho : rdOk MP s.data.toList
    · have F := Lib.hid (FR_no hc ho)
      rw [ho] at RA
      clear hc ho NA NB za zb hz es
      generalize rdN MP s.data.toList = n at *
      go_enter Tryd.func7, Tryd.ntmps7
      go_wp2_with fail
      refine (CU.out _ HM.out).mono ?_; rintro e w1 ⟨rfl, q, rfl⟩
      have R1 := Lib.hid (R0.out.drewN q)
      have B1 := Lib.hid (below_drewN2 BB.out q)
      go_wp2_with fail
      refine (RA.out _ (HV.out.keep B1.out)).mono ?_; rintro e w2 ⟨rfl, hb2⟩
      have R2 := Lib.hid (R1.out.keep hb2)
      have B2 := Lib.hid (B1.out.trans (hb2.mono B1.out.size))
      clear hb2
      go_wp2_with fail
      refine (RB.out _ (HV.out.keep B2.out)).mono ?_; rintro e w3 ⟨rfl, hb3⟩
      have R3 := Lib.hid ((R2.out.keep hb3).alloc (.cells #[.int .i64 n, .int .i64 1] 23))
      have B3 : Hid (Below w.heap.size w (w3.alloc (.cells #[.int .i64 n, .int .i64 1] 23))) := (B2.out.trans (hb3.mono B2.out.size)).alloc (B2.out.trans (hb3.mono B2.out.size)).size _
      have X3 := Lib.hid (Bk.new w3 [.int .i64 n, .int .i64 1] 23 w3.heap.size rfl)
      clear hb3 R1 R2 B1 B2
      have q0 := R3.out.c 0 _ rfl
      have q1 := R3.out.c 1 _ rfl
      have q2 := R3.out.f 0 (by show 0 < 2; omega)
      have q3 := R3.out.f 1 (by show 1 < 2; omega)
      go_wp2_with fail
      refine bodyPost_ret (v := .tuple #[.agg #[.int .i64 0, .int .i64 0], .bool false]) (by simp [results, Tryd.results7, go_sem, q0, q1]) rfl ⟨by rw [F.out], ?_⟩
      exact (B3.out.setCell (by simp) _).setCell (by simp) _
    · have F := Lib.hid (FR_whole hc ho)
      obtain ⟨-, n0, n1⟩ := NA ho
      rw [ho] at RA
      clear hc ho NA NB za zb hz es
      generalize rdN MP s.data.toList = n at *
      have HF := Lib.hid (fun W => validFraction_impl n 1 W (by unfold MP at n0; omega) (by unfold MP at n1; omega))
      rw [fIs_one n0 n1] at HF
      clear n0 n1
      go_enter Tryd.func7, Tryd.ntmps7
      go_wp2_with fail
      refine (CU.out _ HM.out).mono ?_; rintro e w1 ⟨rfl, q, rfl⟩
      have R1 := Lib.hid (R0.out.drewN q)
      have B1 := Lib.hid (below_drewN2 BB.out q)
      go_wp2_with fail
      refine (RA.out _ (HV.out.keep B1.out)).mono ?_; rintro e w2 ⟨rfl, hb2⟩
      have R2 := Lib.hid (R1.out.keep hb2)
      have B2 := Lib.hid (B1.out.trans (hb2.mono B1.out.size))
      clear hb2
      go_wp2_with fail
      refine (RB.out _ (HV.out.keep B2.out)).mono ?_; rintro e w3 ⟨rfl, hb3⟩
      have R3 := Lib.hid ((R2.out.keep hb3).alloc (.cells #[.int .i64 n, .int .i64 1] 23))
      have B3 : Hid (Below w.heap.size w (w3.alloc (.cells #[.int .i64 n, .int .i64 1] 23))) := (B2.out.trans (hb3.mono B2.out.size)).alloc (B2.out.trans (hb3.mono B2.out.size)).size _
      have X3 := Lib.hid (Bk.new w3 [.int .i64 n, .int .i64 1] 23 w3.heap.size rfl)
      clear hb3 R1 R2 B1 B2
      have x0 := X3.out.c 0 _ rfl
      have x1 := X3.out.c 1 _ rfl
      go_wp2_with fail
      refine (HF.out _).mono ?_; rintro e w4 ⟨rfl, hb4⟩
      have R4 := Lib.hid (R3.out.keep hb4)
      have X4 := Lib.hid (X3.out.keep hb4)
      have B4 := Lib.hid (B3.out.trans (hb4.mono B3.out.size))
      clear hb4 x0 x1
      have x0 := X4.out.c 0 _ rfl
      have x1 := X4.out.c 1 _ rfl
      have q0 := R4.out.c 0 _ rfl
      have q1 := R4.out.c 1 _ rfl
      have q2 := R4.out.f 0 (by show 0 < 2; omega)
      have q3 := R4.out.f 1 (by show 1 < 2; omega)
      go_wp2_with fail
      refine bodyPost_ret (v := .tuple #[.agg #[.int .i64 n, .int .i64 1], .bool true]) (by simp [results, Tryd.results7, go_sem, q0, q1]) rfl ⟨by rw [F.out], ?_⟩
      exact (B4.out.setCell (by simp) _).setCell (by simp) _
  · have RB : Hid (∀ W, Vars W → Calls Tryd.prog 19 #[.string ⟨b.toArray⟩, .int .i64 MP] W fun e w' => e = .returned (.tuple #[.int .i64 (rdN MP b), .bool (rdOk MP b)]) ∧ Below W.heap.size W w') := Lib.hid (fun W h => readNumber_any ⟨b.toArray⟩ (by show b.toArray.size ≤ _; simp; omega) MP (by unfold MP; omega) (by unfold MP; omega) W h)
    cases oa : rdOk MP a
    · have F := Lib.hid (FR_not hc (fun e => by have := e.1; rw [oa] at this; cases this))
      rw [oa] at RA
      clear hc oa NA NB za zb hz
      generalize rdN MP a = n at *
      generalize rdN MP b = d at *
      generalize rdOk MP b = two at *
      generalize (⟨a.toArray⟩ : ByteArray) = ta at *
      generalize (⟨b.toArray⟩ : ByteArray) = tb at *
      go_enter Tryd.func7, Tryd.ntmps7
      go_wp2_with fail
      refine (CU.out _ HM.out).mono ?_; rintro e w1 ⟨rfl, q, rfl⟩
      have R1 := Lib.hid (R0.out.drewN q)
      have B1 := Lib.hid (below_drewN2 BB.out q)
      go_wp2_with fail
      refine (RA.out _ (HV.out.keep B1.out)).mono ?_; rintro e w2 ⟨rfl, hb2⟩
      have R2 := Lib.hid (R1.out.keep hb2)
      have B2 := Lib.hid (B1.out.trans (hb2.mono B1.out.size))
      clear hb2
      go_wp2_with fail
      refine (RB.out _ (HV.out.keep B2.out)).mono ?_; rintro e w3 ⟨rfl, hb3⟩
      have R3 := Lib.hid ((R2.out.keep hb3).alloc (.cells #[.int .i64 n, .int .i64 d] 23))
      have B3 : Hid (Below w.heap.size w (w3.alloc (.cells #[.int .i64 n, .int .i64 d] 23))) := (B2.out.trans (hb3.mono B2.out.size)).alloc (B2.out.trans (hb3.mono B2.out.size)).size _
      have X3 := Lib.hid (Bk.new w3 [.int .i64 n, .int .i64 d] 23 w3.heap.size rfl)
      clear hb3 R1 R2 B1 B2
      have q0 := R3.out.c 0 _ rfl
      have q1 := R3.out.c 1 _ rfl
      have q2 := R3.out.f 0 (by show 0 < 2; omega)
      have q3 := R3.out.f 1 (by show 1 < 2; omega)
      go_wp2_with fail
      refine bodyPost_ret (v := .tuple #[.agg #[.int .i64 0, .int .i64 0], .bool false]) (by simp [results, Tryd.results7, go_sem, q0, q1]) rfl ⟨by rw [F.out], ?_⟩
      exact (B3.out.setCell (by simp) _).setCell (by simp) _
    cases ob : rdOk MP b
    · have F := Lib.hid (FR_not hc (fun e => by have := e.2.1; rw [ob] at this; cases this))
      rw [oa] at RA
      rw [ob] at RB
      clear hc oa ob NA NB za zb hz
      generalize rdN MP a = n at *
      generalize rdN MP b = d at *
      generalize (⟨a.toArray⟩ : ByteArray) = ta at *
      generalize (⟨b.toArray⟩ : ByteArray) = tb at *
      go_enter Tryd.func7, Tryd.ntmps7
      go_wp2_with fail
      refine (CU.out _ HM.out).mono ?_; rintro e w1 ⟨rfl, q, rfl⟩
      have R1 := Lib.hid (R0.out.drewN q)
      have B1 := Lib.hid (below_drewN2 BB.out q)
      go_wp2_with fail
      refine (RA.out _ (HV.out.keep B1.out)).mono ?_; rintro e w2 ⟨rfl, hb2⟩
      have R2 := Lib.hid (R1.out.keep hb2)
      have B2 := Lib.hid (B1.out.trans (hb2.mono B1.out.size))
      clear hb2
      go_wp2_with fail
      refine (RB.out _ (HV.out.keep B2.out)).mono ?_; rintro e w3 ⟨rfl, hb3⟩
      have R3 := Lib.hid ((R2.out.keep hb3).alloc (.cells #[.int .i64 n, .int .i64 d] 23))
      have B3 : Hid (Below w.heap.size w (w3.alloc (.cells #[.int .i64 n, .int .i64 d] 23))) := (B2.out.trans (hb3.mono B2.out.size)).alloc (B2.out.trans (hb3.mono B2.out.size)).size _
      have X3 := Lib.hid (Bk.new w3 [.int .i64 n, .int .i64 d] 23 w3.heap.size rfl)
      clear hb3 R1 R2 B1 B2
      have q0 := R3.out.c 0 _ rfl
      have q1 := R3.out.c 1 _ rfl
      have q2 := R3.out.f 0 (by show 0 < 2; omega)
      have q3 := R3.out.f 1 (by show 1 < 2; omega)
      go_wp2_with fail
      refine bodyPost_ret (v := .tuple #[.agg #[.int .i64 0, .int .i64 0], .bool false]) (by simp [results, Tryd.results7, go_sem, q0, q1]) rfl ⟨by rw [F.out], ?_⟩
      exact (B3.out.setCell (by simp) _).setCell (by simp) _
    obtain ⟨-, n0, n1⟩ := NA oa
    obtain ⟨-, d0, d1⟩ := NB ob
    have HF := Lib.hid (fun W => validFraction_impl (rdN MP a) (rdN MP b) W (by unfold MP at n0 ⊢; omega) (by unfold MP at n1 ⊢; omega))
    have HY := Lib.hid (fun h3 h4 => FR_yes hc oa ob h3 h4)
    have HN := Lib.hid (fun hn => FR_not hc hn)
    rw [oa] at RA
    rw [ob] at RB
    clear hc oa ob NA NB za zb hz n0 n1 d0 d1
    generalize rdN MP a = n at *
    generalize rdN MP b = d at *
    generalize (⟨a.toArray⟩ : ByteArray) = ta at *
    generalize (⟨b.toArray⟩ : ByteArray) = tb at *
    cases hf : fIs n d
    · have F := Lib.hid (HN.out (fun e => by have := e.2.2.1; rw [hf] at this; cases this))
      rw [hf] at HF
      clear hf HY HN
      go_enter Tryd.func7, Tryd.ntmps7
      go_wp2_with fail
      refine (CU.out _ HM.out).mono ?_; rintro e w1 ⟨rfl, q, rfl⟩
      have R1 := Lib.hid (R0.out.drewN q)
      have B1 := Lib.hid (below_drewN2 BB.out q)
      go_wp2_with fail
      refine (RA.out _ (HV.out.keep B1.out)).mono ?_; rintro e w2 ⟨rfl, hb2⟩
      have R2 := Lib.hid (R1.out.keep hb2)
      have B2 := Lib.hid (B1.out.trans (hb2.mono B1.out.size))
      clear hb2
      go_wp2_with fail
      refine (RB.out _ (HV.out.keep B2.out)).mono ?_; rintro e w3 ⟨rfl, hb3⟩
      have R3 := Lib.hid ((R2.out.keep hb3).alloc (.cells #[.int .i64 n, .int .i64 d] 23))
      have B3 : Hid (Below w.heap.size w (w3.alloc (.cells #[.int .i64 n, .int .i64 d] 23))) := (B2.out.trans (hb3.mono B2.out.size)).alloc (B2.out.trans (hb3.mono B2.out.size)).size _
      have X3 := Lib.hid (Bk.new w3 [.int .i64 n, .int .i64 d] 23 w3.heap.size rfl)
      clear hb3 R1 R2 B1 B2
      have x0 := X3.out.c 0 _ rfl
      have x1 := X3.out.c 1 _ rfl
      go_wp2_with fail
      refine (HF.out _).mono ?_; rintro e w4 ⟨rfl, hb4⟩
      have R4 := Lib.hid (R3.out.keep hb4)
      have X4 := Lib.hid (X3.out.keep hb4)
      have B4 := Lib.hid (B3.out.trans (hb4.mono B3.out.size))
      clear hb4 x0 x1
      have x0 := X4.out.c 0 _ rfl
      have x1 := X4.out.c 1 _ rfl
      have q0 := R4.out.c 0 _ rfl
      have q1 := R4.out.c 1 _ rfl
      have q2 := R4.out.f 0 (by show 0 < 2; omega)
      have q3 := R4.out.f 1 (by show 1 < 2; omega)
      go_wp2_with fail
      refine bodyPost_ret (v := .tuple #[.agg #[.int .i64 0, .int .i64 0], .bool false]) (by simp [results, Tryd.results7, go_sem, q0, q1]) rfl ⟨by rw [F.out], ?_⟩
      exact (B4.out.setCell (by simp) _).setCell (by simp) _
    by_cases hd : d = 1
    · have F := Lib.hid (HN.out (fun e => e.2.2.2 hd))
      rw [hf] at HF
      have hz : (d == 1) = true := by simpa using hd
      clear hf HY HN hd
      go_enter Tryd.func7, Tryd.ntmps7
      go_wp2_with fail
      refine (CU.out _ HM.out).mono ?_; rintro e w1 ⟨rfl, q, rfl⟩
      have R1 := Lib.hid (R0.out.drewN q)
      have B1 := Lib.hid (below_drewN2 BB.out q)
      go_wp2_with fail
      refine (RA.out _ (HV.out.keep B1.out)).mono ?_; rintro e w2 ⟨rfl, hb2⟩
      have R2 := Lib.hid (R1.out.keep hb2)
      have B2 := Lib.hid (B1.out.trans (hb2.mono B1.out.size))
      clear hb2
      go_wp2_with fail
      refine (RB.out _ (HV.out.keep B2.out)).mono ?_; rintro e w3 ⟨rfl, hb3⟩
      have R3 := Lib.hid ((R2.out.keep hb3).alloc (.cells #[.int .i64 n, .int .i64 d] 23))
      have B3 : Hid (Below w.heap.size w (w3.alloc (.cells #[.int .i64 n, .int .i64 d] 23))) := (B2.out.trans (hb3.mono B2.out.size)).alloc (B2.out.trans (hb3.mono B2.out.size)).size _
      have X3 := Lib.hid (Bk.new w3 [.int .i64 n, .int .i64 d] 23 w3.heap.size rfl)
      clear hb3 R1 R2 B1 B2
      have x0 := X3.out.c 0 _ rfl
      have x1 := X3.out.c 1 _ rfl
      go_wp2_with fail
      refine (HF.out _).mono ?_; rintro e w4 ⟨rfl, hb4⟩
      have R4 := Lib.hid (R3.out.keep hb4)
      have X4 := Lib.hid (X3.out.keep hb4)
      have B4 := Lib.hid (B3.out.trans (hb4.mono B3.out.size))
      clear hb4 x0 x1
      have x0 := X4.out.c 0 _ rfl
      have x1 := X4.out.c 1 _ rfl
      have q0 := R4.out.c 0 _ rfl
      have q1 := R4.out.c 1 _ rfl
      have q2 := R4.out.f 0 (by show 0 < 2; omega)
      have q3 := R4.out.f 1 (by show 1 < 2; omega)
      go_wp2_with fail
      refine bodyPost_ret (v := .tuple #[.agg #[.int .i64 0, .int .i64 0], .bool false]) (by simp [results, Tryd.results7, go_sem, q0, q1]) rfl ⟨by rw [F.out], ?_⟩
      exact (B4.out.setCell (by simp) _).setCell (by simp) _
    · have F := Lib.hid (HY.out hf hd)
      rw [hf] at HF
      have hz : (d == 1) = false := by simpa using hd
      clear hf HY HN hd
      go_enter Tryd.func7, Tryd.ntmps7
      go_wp2_with fail
      refine (CU.out _ HM.out).mono ?_; rintro e w1 ⟨rfl, q, rfl⟩
      have R1 := Lib.hid (R0.out.drewN q)
      have B1 := Lib.hid (below_drewN2 BB.out q)
      go_wp2_with fail
      refine (RA.out _ (HV.out.keep B1.out)).mono ?_; rintro e w2 ⟨rfl, hb2⟩
      have R2 := Lib.hid (R1.out.keep hb2)
      have B2 := Lib.hid (B1.out.trans (hb2.mono B1.out.size))
      clear hb2
      go_wp2_with fail
      refine (RB.out _ (HV.out.keep B2.out)).mono ?_; rintro e w3 ⟨rfl, hb3⟩
      have R3 := Lib.hid ((R2.out.keep hb3).alloc (.cells #[.int .i64 n, .int .i64 d] 23))
      have B3 : Hid (Below w.heap.size w (w3.alloc (.cells #[.int .i64 n, .int .i64 d] 23))) := (B2.out.trans (hb3.mono B2.out.size)).alloc (B2.out.trans (hb3.mono B2.out.size)).size _
      have X3 := Lib.hid (Bk.new w3 [.int .i64 n, .int .i64 d] 23 w3.heap.size rfl)
      clear hb3 R1 R2 B1 B2
      have x0 := X3.out.c 0 _ rfl
      have x1 := X3.out.c 1 _ rfl
      go_wp2_with fail
      refine (HF.out _).mono ?_; rintro e w4 ⟨rfl, hb4⟩
      have R4 := Lib.hid (R3.out.keep hb4)
      have X4 := Lib.hid (X3.out.keep hb4)
      have B4 := Lib.hid (B3.out.trans (hb4.mono B3.out.size))
      clear hb4 x0 x1
      have x0 := X4.out.c 0 _ rfl
      have x1 := X4.out.c 1 _ rfl
      have q0 := R4.out.c 0 _ rfl
      have q1 := R4.out.c 1 _ rfl
      have q2 := R4.out.f 0 (by show 0 < 2; omega)
      have q3 := R4.out.f 1 (by show 1 < 2; omega)
      go_wp2_with fail
      refine bodyPost_ret (v := .tuple #[.agg #[.int .i64 n, .int .i64 d], .bool true]) (by simp [results, Tryd.results7, go_sem, q0, q1]) rfl ⟨by rw [F.out], ?_⟩
      exact (B4.out.setCell (by simp) _).setCell (by simp) _
end Go.Proofs.YtnlnoookpcplgacDoor
