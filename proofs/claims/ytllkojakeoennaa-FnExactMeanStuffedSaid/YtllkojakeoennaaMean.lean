/- Contracts of both MeanStuffed. -/
import Derived.Test.YtllkojakeoennaaMsf
namespace Go.Proofs.Ytllkojakeoennaa
open Go Go.RowKit
set_option linter.unusedVariables false

/-- 2 to the power of a number from 1 to 10 and 1 more, less 2. -/
def mden (a : Int) : Int := [0, 2, 6, 14, 30, 62, 126, 254, 510, 1022, 2046].getD a.toNat 0
def meN (a b : Int) : Int := if sOk a b then mkN 1 (mden a) else 0
def meD (a b : Int) : Int := if sOk a b then mkD 1 (mden a) else 0
set_option maxHeartbeats 1000000 in
theorem mean_spec (w : World) (a b : Int) :
    Calls Try.prog 32 #[.agg #[.int .i64 a, .int .i64 b]] w fun e w' => e = .returned (.tuple #[.agg #[.int .i64 (meN a b), .int .i64 (meD a b)], .bool (sOk a b)]) ∧ Below w.heap.size w w' := by
  have HO2 := Lib.hid ((Bk.new w (sV a b) 25 _ rfl).alloc (.cells #[.int .i64 0, .int .i64 0] 41))
  have HR2 := Lib.hid (Bk.new (w.alloc (.cells #[.int .i64 a, .int .i64 b] 25)) [.int .i64 0, .int .i64 0] 41 (w.heap.size + 1) (by simp))
  have HB2 := Lib.hid ((sbox_below w #[.int .i64 a, .int .i64 b] 25).alloc (by simp) (.cells #[.int .i64 0, .int .i64 0] 41))
  cases hs : sOk a b
  · have e1 : meN a b = 0 := by unfold meN; rw [hs]; rfl
    have e2 : meD a b = 0 := by unfold meD; rw [hs]; rfl
    rw [e1, e2]
    have HS := Lib.hid hs
    clear e1 e2 hs
    go_enter Try.func32, Try.ntmps32
    go_wp2_with fail
    refine (l04Is_any _ _ _ _ HO2.out).mono ?_; rintro e w1 ⟨rfl, rfl⟩
    rw [HS.out]

    obtain ⟨q0, q1⟩ := bk_two HO2.out
    obtain ⟨r0, r1⟩ := bk_two HR2.out
    have f0 := HR2.out.f 0 (by decide)
    have f1 := HR2.out.f 1 (by decide)
    go_wp2_with fail
    simp [bodyPost, results, Try.results32, go_sem]
    first | exact HB2.out | exact (HB2.out.setCell (p := ⟨w.heap.size + 1, 0, none⟩) (Nat.le_succ _) _).setCell (p := ⟨w.heap.size + 1, 1, none⟩) (Nat.le_succ _) _
  · obtain ⟨⟨a1, a2⟩, -⟩ := sOk_parts hs
    have e1 : meN a b = mkN 1 (mden a) := by unfold meN; rw [hs]; rfl
    have e2 : meD a b = mkD 1 (mden a) := by unfold meD; rw [hs]; rfl
    rw [e1, e2]
    have HS := Lib.hid hs
    clear e1 e2 hs
    rcases (show a = 1 ∨ a = 2 ∨ a = 3 ∨ a = 4 ∨ a = 5 ∨ a = 6 ∨ a = 7 ∨ a = 8 ∨ a = 9 ∨ a = 10 from by omega) with rfl | rfl | rfl | rfl | rfl | rfl | rfl | rfl | rfl | rfl
    all_goals clear a1 a2
    all_goals
      go_enter Try.func32, Try.ntmps32
      go_wp2_with fail
      refine (l04Is_any _ _ _ _ HO2.out).mono ?_; rintro e w1 ⟨rfl, rfl⟩
      rw [HS.out]

      obtain ⟨q0, q1⟩ := bk_two HO2.out
      obtain ⟨r0, r1⟩ := bk_two HR2.out
      go_wp2_with fail
      clear q0 q1 r0 r1
      refine (l01FMake_any 1 _ _ (by decide) (by decide) (by decide) (by decide) (by decide)).mono ?_; rintro e w2 ⟨rfl, hb2⟩
      have HR4 := Lib.hid (HR2.out.keep hb2)
      have HB4 := Lib.hid (HB2.out.trans (hb2.mono HB2.out.size))
      clear hb2
      obtain ⟨r0, r1⟩ := bk_two HR4.out
      have f0 := HR4.out.f 0 (by decide)
      have f1 := HR4.out.f 1 (by decide)
      go_wp2_with fail
      simp [bodyPost, results, Try.results32, go_sem, r0, r1]
      exact ⟨⟨rfl, rfl⟩, (HB4.out.setCell (by simp) _).setCell (by simp) _⟩

set_option maxHeartbeats 1000000 in
theorem mean_impl (w : World) (a b : Int) :
    Calls Try.prog 33 #[.agg #[.int .i64 a, .int .i64 b]] w fun e w' => e = .returned (.tuple #[.agg #[.int .i64 (meN a b), .int .i64 (meD a b)], .bool (sOk a b)]) ∧ Below w.heap.size w w' := by
  have HO2 := Lib.hid ((Bk.new w (sV a b) 25 _ rfl).alloc (.cells #[.int .i64 0, .int .i64 0] 41))
  have HR2 := Lib.hid (Bk.new (w.alloc (.cells #[.int .i64 a, .int .i64 b] 25)) [.int .i64 0, .int .i64 0] 41 (w.heap.size + 1) (by simp))
  have HB2 := Lib.hid ((sbox_below w #[.int .i64 a, .int .i64 b] 25).alloc (by simp) (.cells #[.int .i64 0, .int .i64 0] 41))
  cases hs : sOk a b
  · have e1 : meN a b = 0 := by unfold meN; rw [hs]; rfl
    have e2 : meD a b = 0 := by unfold meD; rw [hs]; rfl
    rw [e1, e2]
    have HS := Lib.hid hs
    clear e1 e2 hs
    go_enter Try.func33, Try.ntmps33
    go_wp2_with fail
    refine (validStuffer_impl _ _ _).mono ?_; rintro e w1 ⟨rfl, hb1⟩
    rw [HS.out]

    obtain ⟨q0, q1⟩ := bk_two (HO2.out.keep hb1)
    have HR3 := Lib.hid (HR2.out.keep hb1)
    have HB3 := Lib.hid (HB2.out.trans (hb1.mono HB2.out.size))
    obtain ⟨r0, r1⟩ := bk_two HR3.out
    clear hb1
    have f0 := HR3.out.f 0 (by decide)
    have f1 := HR3.out.f 1 (by decide)
    go_wp2_with fail
    simp [bodyPost, results, Try.results33, go_sem, r0, r1]
    exact (HB3.out.setCell (by simp) _).setCell (by simp) _
  · obtain ⟨⟨a1, a2⟩, -⟩ := sOk_parts hs
    have e1 : meN a b = mkN 1 (mden a) := by unfold meN; rw [hs]; rfl
    have e2 : meD a b = mkD 1 (mden a) := by unfold meD; rw [hs]; rfl
    rw [e1, e2]
    have HS := Lib.hid hs
    clear e1 e2 hs
    rcases (show a = 1 ∨ a = 2 ∨ a = 3 ∨ a = 4 ∨ a = 5 ∨ a = 6 ∨ a = 7 ∨ a = 8 ∨ a = 9 ∨ a = 10 from by omega) with rfl | rfl | rfl | rfl | rfl | rfl | rfl | rfl | rfl | rfl
    all_goals clear a1 a2
    all_goals
      go_enter Try.func33, Try.ntmps33
      go_wp2_with fail
      refine (validStuffer_impl _ _ _).mono ?_; rintro e w1 ⟨rfl, hb1⟩
      rw [HS.out]

      obtain ⟨q0, q1⟩ := bk_two (HO2.out.keep hb1)
      have HR3 := Lib.hid (HR2.out.keep hb1)
      have HB3 := Lib.hid (HB2.out.trans (hb1.mono HB2.out.size))
      obtain ⟨r0, r1⟩ := bk_two HR3.out
      clear hb1
      go_wp2_with fail
      clear q0 q1 r0 r1
      refine (make_yes_impl 1 _ _ (by decide) (by decide) (by decide) (by decide) (by decide)).mono ?_; rintro e w2 ⟨rfl, hb2⟩
      have HR4 := Lib.hid (HR3.out.keep hb2)
      have HB4 := Lib.hid (HB3.out.trans (hb2.mono HB3.out.size))
      clear hb2
      obtain ⟨r0, r1⟩ := bk_two HR4.out
      have f0 := HR4.out.f 0 (by decide)
      have f1 := HR4.out.f 1 (by decide)
      go_wp2_with fail
      simp [bodyPost, results, Try.results33, go_sem, r0, r1]
      exact ⟨⟨rfl, rfl⟩, (HB4.out.setCell (by simp) _).setCell (by simp) _⟩

end Go.Proofs.Ytllkojakeoennaa
