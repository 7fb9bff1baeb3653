/- Both BestChance. -/
import Derived.Test.YtmhdjimdhcephabNdI
import Derived.Test.YtmhdjimdhcephabMake
import Derived.Test.YtmhdjimdhcephabBk
namespace Go.Proofs.Ytmhdjimdhcephab
open Go Go.RowKit
set_option linter.unusedVariables false

theorem bk_two2 {W : World} {b : Nat} {x y : Value} (h : Bk W b [x, y]) : W.cell? ⟨b, 0, none⟩ = some x ∧ W.cell? ⟨b, 1, none⟩ = some y := ⟨h.c 0 _ rfl, h.c 1 _ rfl⟩
def bsN (n : Int) : Int := if rgB 1 12 n then 1 else 0
def bsD (n : Int) : Int := if rgB 1 12 n then n else 0
theorem mk_one {n : Int} (h : 1 ≤ n ∧ n ≤ 12) : mkN 1 n = 1 ∧ mkD 1 n = n := by
  have e : Nat.gcd (1 : Int).natAbs n.natAbs = 1 := by
    rw [show (1 : Int).natAbs = 1 from rfl]; exact Nat.gcd_one_left _
  unfold mkN mkD
  rw [e, if_neg (by omega)]
  exact ⟨by decide, by simp; omega⟩
set_option maxRecDepth 100000 in
theorem best_impl (n : Int) (w : World) :
    Calls Try.prog 40 #[.int .i64 n] w fun e w' => e = .returned (.tuple #[.agg #[.int .i64 (bsN n), .int .i64 (bsD n)], .bool (rgB 1 12 n)]) ∧ Below w.heap.size w w' := by
  have HC := Lib.hid (fun W => areStations_any n W)
  have HB0 : Hid (Below w.heap.size w (w.alloc (.cells #[.int .i64 0, .int .i64 0] 24))) := (Below.refl _ _).alloc (Nat.le_refl _) _
  have HR0 : Hid (Bk (w.alloc (.cells #[.int .i64 0, .int .i64 0] 24)) w.heap.size [.int .i64 0, .int .i64 0]) := Bk.new w [.int .i64 0, .int .i64 0] _ _ rfl
  cases h : rgB 1 12 n
  · have e1 : bsN n = 0 := by unfold bsN; rw [h]; rfl
    have e2 : bsD n = 0 := by unfold bsD; rw [h]; rfl
    rw [e1, e2]
    rw [h] at HC
    clear e1 e2 h
    obtain ⟨r0, r1⟩ := bk_two2 HR0.out
    have f0 := HR0.out.f 0 (by decide)
    have f1 := HR0.out.f 1 (by decide)
    go_enter Try.func40, Try.ntmps40
    go_wp2_with fail
    refine (HC.out _).mono ?_; rintro e w' ⟨rfl, rfl⟩
    go_wp2_with fail
    simp [bodyPost, results, Try.results40, go_sem, r0, r1]
    first | exact (HB0.out.setCell (p := ⟨w.heap.size, 0, none⟩) (Nat.le_refl _) _).setCell (p := ⟨w.heap.size, 1, none⟩) (Nat.le_refl _) _ | exact HB0.out | exact (Below.refl _ _).alloc (Nat.le_refl _) _
  · have e1 : bsN n = 1 := by unfold bsN; rw [h]; rfl
    have e2 : bsD n = n := by unfold bsD; rw [h]; rfl
    rw [e1, e2]
    have hn : 1 ≤ n ∧ n ≤ 12 := of_decide_eq_true h
    rw [h] at HC
    have HM : Hid (∀ W, Calls Try.prog 92 #[.int .i64 1, .int .i64 n] W fun e w' => e = .returned (.tuple #[.agg #[.int .i64 1, .int .i64 n], .bool true]) ∧ Below W.heap.size W w') := by
      show ∀ W, _
      intro W
      have := make_yes_impl 1 n W (by omega) (by omega) (by omega) (by omega) (by omega)
      rwa [(mk_one hn).1, (mk_one hn).2] at this
    clear e1 e2 h hn
    go_enter Try.func40, Try.ntmps40
    go_wp2_with fail
    refine (HC.out _).mono ?_; rintro e w' ⟨rfl, rfl⟩
    go_wp2_with fail
    refine (HM.out _).mono ?_; rintro e w2 ⟨rfl, hb2⟩
    have HB2 := Lib.hid (HB0.out.trans (hb2.mono HB0.out.size))
    have HR2 := Lib.hid (HR0.out.keep hb2)
    clear hb2
    obtain ⟨r0, r1⟩ := bk_two2 HR2.out
    have f0 := HR2.out.f 0 (by decide)
    have f1 := HR2.out.f 1 (by decide)
    go_wp2_with fail
    simp [bodyPost, results, Try.results40, go_sem, r0, r1]
    first | exact (HB2.out.setCell (p := ⟨w.heap.size, 0, none⟩) (Nat.le_refl _) _).setCell (p := ⟨w.heap.size, 1, none⟩) (Nat.le_refl _) _ | exact HB2.out
end Go.Proofs.Ytmhdjimdhcephab
