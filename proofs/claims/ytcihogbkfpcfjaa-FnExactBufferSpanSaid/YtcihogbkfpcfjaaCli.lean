/- The program's clocks: methods of clocks, JitterTolerated, IsTolerated, LongestTolerated, TakeRange. -/
import Derived.Test.YtcihogbkfpcfjaaClt
import Derived.Test.YtcihogbkfpcfjaaBk
import Derived.Test.YtcihogbkfpcfjaaInts
import Derived.Deep.RegionHeld3
namespace Go.Proofs.Ytcihogbkfpcfjaa
open Go Go.RowKit
set_option linter.unusedVariables false

theorem arePeriods_any (a b : Int) (w : World) : Calls Try.prog 73 #[.int .i64 a, .int .i64 b] w fun e w' => e = .returned (.bool (tkOk a b)) ∧ w = w' := by
  have HT1 : Hid (Calls Try.prog 44 #[.int .i64 a, .int .i64 2, .int .i64 1000] w fun e w' => e = .returned (.bool (tkB a)) ∧ w = w') := is_any a 2 1000 w
  have HT2 : Hid (Calls Try.prog 44 #[.int .i64 b, .int .i64 2, .int .i64 1000] w fun e w' => e = .returned (.bool (tkB b)) ∧ w = w') := is_any b 2 1000 w
  have HV : Hid (tkOk a b = (tkB a && tkB b)) := rfl
  generalize tkOk a b = V at *
  cases h1 : tkB a
  · rw [h1] at HT1 HV
    clear h1 HT2
    go_enter Try.func73, Try.ntmps73
    go_wp2_with fail
    refine HT1.out.mono ?_; rintro e w' ⟨rfl, rfl⟩
    go_wp2_with fail
    go_ret
    exact ⟨ret_bool (by rw [HV.out]; rfl), rfl⟩
  · rw [h1] at HT1 HV
    clear h1
    generalize tkB b = U at *
    go_enter Try.func73, Try.ntmps73
    go_wp2_with fail
    refine HT1.out.mono ?_; rintro e w' ⟨rfl, rfl⟩
    go_wp2_with fail
    refine HT2.out.mono ?_; rintro e w' ⟨rfl, rfl⟩
    go_wp2_with fail
    go_ret
    exact ⟨ret_bool (by rw [HV.out]; rfl), rfl⟩

/-- The clocks in a box of their own. -/
def ckV (a b : Int) : List Value := [.int .i64 a, .int .i64 b]
theorem ck_two {W : World} {k : Nat} {a b : Int} (h : Bk W k (ckV a b)) : W.cell? ⟨k, 0, none⟩ = some (.int .i64 a) ∧ W.cell? ⟨k, 1, none⟩ = some (.int .i64 b) := ⟨h.c 0 _ rfl, h.c 1 _ rfl⟩

theorem areValid_any (a b : Int) (w : World) : Calls Try.prog 43 #[.agg #[.int .i64 a, .int .i64 b]] w fun e w' => e = .returned (.bool (tkOk a b)) ∧ Below w.heap.size w w' := by
  have HB : Hid (Below w.heap.size w (w.alloc (.cells #[.int .i64 a, .int .i64 b] 46))) := (Below.refl _ _).alloc (Nat.le_refl _) _
  have HP := Lib.hid (fun W => arePeriods_any a b W)
  generalize tkOk a b = V at *
  go_enter Try.func43, Try.ntmps43
  go_wp2_with fail
  refine (HP.out _).mono ?_; rintro e w' ⟨rfl, rfl⟩
  go_wp2_with fail
  go_ret
  exact ⟨rfl, HB.out⟩
theorem sampleAt_any (a b i : Int) (w : World) (hi : 0 ≤ i ∧ i ≤ 1000000) (hb : 0 ≤ b ∧ b ≤ 1000) : Calls Try.prog 45 #[.agg #[.int .i64 a, .int .i64 b], .int .i64 i] w fun e w' => e = .returned (.int .i64 (2 * (i * b) + b)) ∧ Below w.heap.size w w' := by
  have HB : Hid (Below w.heap.size w (w.alloc (.cells #[.int .i64 a, .int .i64 b] 46))) := (Below.refl _ _).alloc (Nat.le_refl _) _
  have p0 : 0 ≤ i * b := Int.mul_nonneg hi.1 hb.1
  have p1 : i * b ≤ 1000000 * 1000 := Int.mul_le_mul hi.2 hb.2 hb.1 (by omega)
  obtain ⟨X, hX⟩ : ∃ X, X = 2 * (i * b) + b := ⟨_, rfl⟩
  have w1 : IntKind.i64.wrap ((2 * i + 1) * b) = X := by
    rw [hX, Int.add_mul, Int.one_mul, Int.mul_assoc]; exact IntWalk.i64_in _ (by omega)
  obtain ⟨i0, i1⟩ := hi
  rw [← hX]
  clear hX p0 p1 hb
  go_enter Try.func45, Try.ntmps45
  go_wp2_with fail
  go_ret
  exact ⟨rfl, HB.out⟩
theorem inHalves_any (a : Int) (w : World) (h : -1000000000000 ≤ a ∧ a ≤ 1000000000000) : Calls Try.prog 51 #[.int .i64 a] w fun e w' => e = .returned (.int .i64 (2 * a)) ∧ w = w' := by
  obtain ⟨h0, h1⟩ := h
  go_enter Try.func51, Try.ntmps51
  go_wp2_with fail
  go_ret
  exact ⟨rfl, rfl⟩
theorem bitAt_any (a b i : Int) (w : World) (hi : 0 ≤ i ∧ i ≤ 1000000) (ha : 0 ≤ a ∧ a ≤ 1000) : Calls Try.prog 74 #[.agg #[.int .i64 a, .int .i64 b], .int .i64 i] w fun e w' => e = .returned (.int .i64 (2 * (i * a))) ∧ Below w.heap.size w w' := by
  have HB : Hid (Below w.heap.size w (w.alloc (.cells #[.int .i64 a, .int .i64 b] 46))) := (Below.refl _ _).alloc (Nat.le_refl _) _
  have p0 : 0 ≤ i * a := Int.mul_nonneg hi.1 ha.1
  have p1 : i * a ≤ 1000000 * 1000 := Int.mul_le_mul hi.2 ha.2 ha.1 (by omega)
  obtain ⟨X, hX⟩ : ∃ X, X = i * a := ⟨_, rfl⟩
  have w1 : IntKind.i64.wrap (i * a) = X := by rw [← hX]; exact IntWalk.i64_in _ (by omega)
  have HI := Lib.hid (fun W => inHalves_any X W (by omega))
  rw [← hX]
  clear hX p0 p1 hi ha
  go_enter Try.func74, Try.ntmps74
  go_wp2_with fail
  refine (HI.out _).mono ?_; rintro e w' ⟨rfl, rfl⟩
  go_wp2_with fail
  go_ret
  exact ⟨rfl, HB.out⟩

set_option maxRecDepth 100000 in
set_option maxHeartbeats 1000000 in
theorem spareOf_any (a b n : Int) (w : World) (ha : 2 ≤ a ∧ a ≤ 1000) (hb : 2 ≤ b ∧ b ≤ 1000) (hn : 1 ≤ n ∧ n ≤ 100) :
    Calls Try.prog 50 #[.agg #[.int .i64 a, .int .i64 b], .int .i64 n] w fun e w' => e = .returned (.int .i64 (spr a b n)) ∧ Below w.heap.size w w' := by
  have HB : Hid (Below w.heap.size w (w.alloc (.cells #[.int .i64 a, .int .i64 b] 46))) := (Below.refl _ _).alloc (Nat.le_refl _) _
  have HK : Hid (Bk (w.alloc (.cells #[.int .i64 a, .int .i64 b] 46)) w.heap.size (ckV a b)) := Bk.new w (ckV a b) 46 _ rfl
  obtain ⟨pa0, pa1⟩ := prod_bd (k := n) (M := 100) (by omega) hn.2 ha.1 ha.2
  obtain ⟨pb0, pb1⟩ := prod_bd (k := n) (M := 100) (by omega) hn.2 hb.1 hb.2
  have HBT := Lib.hid (fun W => bitAt_any a b n W (by omega) (by omega))
  have HS0 := Lib.hid (fun W => sampleAt_any a b (n - 1) W (by omega) (by omega))
  have HS1 := Lib.hid (fun W => sampleAt_any a b n W (by omega) (by omega))
  have e0 : 2 * ((n - 1) * b) + b = 2 * (n * b) - b := by rw [Int.sub_mul, Int.one_mul]; omega
  rw [e0] at HS0
  have hV : spr a b n = min (2 * (n * a) - (2 * (n * b) - b) - 1) (2 * (n * b) + b - 2 * (n * a)) := rfl
  obtain ⟨A, hA⟩ : ∃ A, A = 2 * (n * a) := ⟨_, rfl⟩
  obtain ⟨S, hS⟩ : ∃ S, S = 2 * (n * b) - b := ⟨_, rfl⟩
  obtain ⟨T, hT⟩ : ∃ T, T = 2 * (n * b) + b := ⟨_, rfl⟩
  rw [← hA, ← hS, ← hT] at hV
  rw [← hA] at HBT
  rw [← hS] at HS0
  rw [← hT] at HS1
  have HV := Lib.hid hV
  generalize spr a b n = V at *
  have bA : 0 ≤ A ∧ A ≤ 1000000 := by omega
  have bS : -1000000 ≤ S ∧ S ≤ 1000000 := by omega
  have bT : -1000000 ≤ T ∧ T ≤ 1000000 := by omega
  obtain ⟨bA0, bA1⟩ := bA
  obtain ⟨bS0, bS1⟩ := bS
  obtain ⟨bT0, bT1⟩ := bT
  obtain ⟨m, hm⟩ : ∃ m, m = n - 1 := ⟨_, rfl⟩
  rw [← hm] at HS0 
  have wm : IntKind.i64.wrap (n - 1) = m := by rw [hm]; exact IntWalk.i64_in _ (by omega)
  clear e0 hV hA hS hT pa0 pa1 pb0 pb1 ha hb hn hm
  go_enter Try.func50, Try.ntmps50
  go_wp2_with fail
  have t0 := HK.out.drew
  have B6 := Lib.hid (HB.out.drew)
  have qa := (ck_two t0).1
  have qb := (ck_two t0).2
  go_region_held3 (fun w' => w'.cell? ⟨w.heap.size, 0, none⟩ = some (.int .i64 a) ∧ w'.cell? ⟨w.heap.size, 1, none⟩ = some (.int .i64 b)) ((first | with_reducible exact ck_two t8 | with_reducible exact ck_two t7 | with_reducible exact ck_two t0 | fail))
    (first
      | (go_at_call 74; refine (HBT.out _).mono ?_; rintro e u7 ⟨rfl, hb7⟩; have t7 := t0.keep hb7; have B7 := Lib.hid (B6.out.trans (hb7.mono B6.out.size)); have qa := (ck_two t7).1; have qb := (ck_two t7).2; clear hb7)
      | (go_at_call 45; refine (HS0.out _).mono ?_; rintro e u8 ⟨rfl, hb8⟩; have t8 := t7.keep hb8; have B8 := Lib.hid (B7.out.trans (hb8.mono B7.out.size)); have qa := (ck_two t8).1; have qb := (ck_two t8).2; clear hb8)
      | fail)
  all_goals clear B6 B7 t0 t7 qa qb
  all_goals go_wp2_with fail
  all_goals have t0 := t8.drew
  all_goals have B6 := Lib.hid (B8.out.drew)
  all_goals clear t8 B8
  all_goals have qa := (ck_two t0).1
  all_goals have qb := (ck_two t0).2
  all_goals clear HS0 wm HK HB
  all_goals go_region_held3 (fun w' => w'.cell? ⟨w.heap.size, 0, none⟩ = some (.int .i64 a) ∧ w'.cell? ⟨w.heap.size, 1, none⟩ = some (.int .i64 b)) ((first | with_reducible exact ck_two t8 | with_reducible exact ck_two t7 | with_reducible exact ck_two t0 | fail))
    (first
      | (go_at_call 45; refine (HS1.out _).mono ?_; rintro e u10 ⟨rfl, hb7⟩; have t7 := t0.keep hb7; have B7 := Lib.hid (B6.out.trans (hb7.mono B6.out.size)); have qa := (ck_two t7).1; have qb := (ck_two t7).2; clear hb7)
      | (go_at_call 74; refine (HBT.out _).mono ?_; rintro e u11 ⟨rfl, hb8⟩; have t8 := t7.keep hb8; have B8 := Lib.hid (B7.out.trans (hb8.mono B7.out.size)); have qa := (ck_two t8).1; have qb := (ck_two t8).2; clear hb8)
      | fail)
  all_goals clear B6 B7 t0 t7 qa qb
  all_goals go_wp2_with fail
  all_goals go_ret
  all_goals exact ⟨ret_int (by rw [HV.out]; omega), B8.out⟩
end Go.Proofs.Ytcihogbkfpcfjaa
