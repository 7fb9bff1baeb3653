/- Contracts of both FlagOf. -/
import Derived.Test.YtllkojakeoennaaFlg
import Derived.Test.YtllkojakeoennaaShelf
import Derived.Lib.Repeat
import Derived.Deep.RegionHeld3
namespace Go.Proofs.Ytllkojakeoennaa
open Go Go.RowKit
set_option linter.unusedVariables false

def flV (a b : Int) : ByteArray := if sOk a b then fl a.toNat (dB b) (oB b) else ⟨#[]⟩
theorem sOk_parts2 {a b : Int} (h : sOk a b = true) : (1 ≤ a ∧ a ≤ 10) ∧ (0 ≤ b ∧ b ≤ 1) := of_decide_eq_true h
theorem sv_two {W : World} {k : Nat} {a b : Int} (h : Bk W k (sV a b)) : W.cell? ⟨k, 0, none⟩ = some (.int .i64 a) ∧ W.cell? ⟨k, 1, none⟩ = some (.int .i64 b) := bk_two h
theorem flagOf_spec (w : World) (a b : Int) :
    Calls Try.prog 21 #[.agg #[.int .i64 a, .int .i64 b]] w fun e w' => e = .returned (.tuple #[.string (flV a b), .bool (sOk a b)]) ∧ Below w.heap.size w w' := by
  have HB : Hid (Below w.heap.size w (w.alloc (.cells #[.int .i64 a, .int .i64 b] 25))) := (Below.refl _ _).alloc (Nat.le_refl _) _
  have HO := Lib.hid (Bk.new w (sV a b) 25 _ rfl)
  cases hs : sOk a b
  · have e1 : flV a b = ⟨#[]⟩ := by unfold flV; rw [hs]; rfl
    rw [e1]
    have HS := Lib.hid hs
    clear e1 hs
    go_enter Try.func21, Try.ntmps21
    go_wp2_with fail
    refine (l04Is_any _ _ _ _ HO.out).mono ?_; rintro e w' ⟨rfl, rfl⟩
    rw [HS.out]
    go_wp2_with fail
    go_ret2
    exact ⟨rfl, HB.out⟩
  · have e1 : flV a b = fl a.toNat (dB b) (oB b) := by unfold flV; rw [hs]; rfl
    obtain ⟨ha, hb⟩ := sOk_parts2 hs
    rw [e1]
    obtain ⟨n, rfl⟩ : ∃ n : Nat, a = (n : Int) := ⟨a.toNat, by omega⟩
    rw [Int.toNat_natCast]
    have HS := Lib.hid hs
    have HD := Lib.hid (dg_of hb)
    have hn : n ≤ 10 := by omega
    clear e1 hs ha hb
    generalize dB b = d at *
    generalize oB b = o at *
    go_enter Try.func21, Try.ntmps21
    go_wp2_with fail
    refine (l04Is_any _ _ _ _ HO.out).mono ?_; rintro e w' ⟨rfl, rfl⟩
    rw [HS.out]
    go_wp2_with fail
    refine (l04Flag_any _ _ n b d o HD.out hn HO.out).mono ?_; rintro e w2 ⟨rfl, hb2⟩
    have B2 := Lib.hid (HB.out.trans (hb2.mono HB.out.size))
    clear hb2
    go_wp2_with fail
    go_ret2
    exact ⟨rfl, B2.out⟩

set_option maxRecDepth 100000 in
set_option maxHeartbeats 1000000 in
theorem flagOf_impl (w : World) (a b : Int) :
    Calls Try.prog 22 #[.agg #[.int .i64 a, .int .i64 b]] w fun e w' => e = .returned (.tuple #[.string (flV a b), .bool (sOk a b)]) ∧ Below w.heap.size w w' := by
  have HB : Hid (Below w.heap.size w (w.alloc (.cells #[.int .i64 a, .int .i64 b] 25))) := (Below.refl _ _).alloc (Nat.le_refl _) _
  have HO := Lib.hid (Bk.new w (sV a b) 25 _ rfl)
  cases hs : sOk a b
  · have e1 : flV a b = ⟨#[]⟩ := by unfold flV; rw [hs]; rfl
    rw [e1]
    have HS := Lib.hid hs
    clear e1 hs
    go_enter Try.func22, Try.ntmps22
    go_wp2_with fail
    refine (validStuffer_impl _ _ _).mono ?_; rintro e w1 ⟨rfl, hb1⟩
    have B1 := Lib.hid (HB.out.trans (hb1.mono HB.out.size))
    clear hb1
    rw [HS.out]
    go_wp2_with fail
    go_ret2
    exact ⟨rfl, B1.out⟩
  · have e1 : flV a b = fl a.toNat (dB b) (oB b) := by unfold flV; rw [hs]; rfl
    obtain ⟨ha, hb⟩ := sOk_parts2 hs
    rw [e1]
    obtain ⟨n, rfl⟩ : ∃ n : Nat, a = (n : Int) := ⟨a.toNat, by omega⟩
    rw [Int.toNat_natCast]
    have HS := Lib.hid hs
    have hn : n ≤ 10 := by omega
    have HD0 := dg_of hb
    clear e1 hs ha hb
    generalize dB b = d at *
    generalize oB b = o at *
    have u48 : Utf8.encode 48 = ⟨#[48]⟩ := by rfl
    have u49 : Utf8.encode 49 = ⟨#[49]⟩ := by rfl
    have wx : IntKind.i64.wrap ((n : Int) + 1) = (n : Int) + 1 := IntWalk.i64_in _ (by omega)
    have HRep : Hid (∀ (W : World), Calls Try.prog 60 #[.string ⟨#[d]⟩, .int .i64 ((n : Int) + 1)] W fun e w' => e = .returned (.string ⟨(List.replicate (n + 1) d).toArray⟩) ∧ Below W.heap.size W w') := by
      show ∀ (W : World), _
      intro W
      have h := Try.strings_Repeat ⟨#[d]⟩ (n + 1) W (by omega) (by show 1 * (n + 1) ≤ _; omega)
      rw [show (#[d] : Array UInt8).toList = List.replicate 1 d from rfl, Lib.repeatL_replicate, Nat.mul_one, show ((n + 1 : Nat) : Int) = (n : Int) + 1 from rfl] at h
      exact h
    have HE := Lib.hid (flP_end n d o)
    have HK := Lib.hid (fl_size n d o)
    have hsum : ∀ W : World, (Op.stringOp .add ⟨#[o]⟩ ⟨(List.replicate (n + 1) d).toArray⟩).run Try.prog W = .ok (.string (flP (n + 1) d o)) W := fun W => by
      have := run_string_add_sum (P := Try.prog) W ⟨#[o]⟩ ⟨(List.replicate (n + 1) d).toArray⟩ (by show 1 + (List.replicate (n + 1) d).toArray.size ≤ _; simp; omega)
      rwa [show (⟨#[o]⟩ ++ ⟨(List.replicate (n + 1) d).toArray⟩ : ByteArray) = flP (n + 1) d o from by apply ByteArray.ext; simp [flP]] at this
    have hsum2 : ∀ W : World, (Op.stringOp .add (flP (n + 1) d o) ⟨#[o]⟩).run Try.prog W = .ok (.string (fl n d o)) W := fun W => by
      have := run_string_add_sum (P := Try.prog) W (flP (n + 1) d o) ⟨#[o]⟩ (by rw [flP_size]; show n + 1 + 1 + 1 ≤ _; omega)
      rwa [HE.out] at this
    clear HE
    generalize (⟨(List.replicate (n + 1) d).toArray⟩ : ByteArray) = R at *
    generalize flP (n + 1) d o = C at *
    generalize fl n d o = F at *
    clear HK hn
    rcases HD0 with ⟨rfl, rfl, rfl⟩ | ⟨rfl, rfl, rfl⟩
    · have HDig := Lib.hid (fun W => digit_any n 0 48 49 (.inl ⟨rfl, rfl, rfl⟩) 48 (by decide) W)
      have HOpp := Lib.hid (fun W => opposite_any n 0 48 49 (.inl ⟨rfl, rfl, rfl⟩) 49 (by decide) W)
      go_enter Try.func22, Try.ntmps22
      go_wp2_with fail
      refine (validStuffer_impl _ _ _).mono ?_; rintro e w1 ⟨rfl, hb1⟩
      have B1 := Lib.hid (HB.out.trans (hb1.mono HB.out.size))
      have O1 := Lib.hid (HO.out.keep hb1)
      obtain ⟨q0, q1⟩ := bk_two O1.out
      clear hb1
      rw [HS.out]
      go_wp2_with fail
      clear q0 q1
      have t0 := O1.out.drew
      have B6 := Lib.hid (B1.out.drew)
      obtain ⟨q0, q1⟩ := sv_two t0
      go_region_held3 (fun w' => w'.cell? ⟨w.heap.size, 0, none⟩ = some (.int .i64 (n : Int)) ∧ w'.cell? ⟨w.heap.size, 1, none⟩ = some (.int .i64 0)) ((first | with_reducible exact sv_two t8 | with_reducible exact sv_two t7 | with_reducible exact sv_two t0 | fail))
        (first
          | (go_at_call 61; refine (HDig.out _).mono ?_; rintro e u7 ⟨rfl, hb7⟩; have t7 := t0.keep hb7; have B7 := Lib.hid (B6.out.trans (hb7.mono B6.out.size)); obtain ⟨q0, q1⟩ := sv_two t7; clear hb7)
          | (go_at_call 60; refine (HRep.out _).mono ?_; rintro e u8 ⟨rfl, hb8⟩; have t8 := t7.keep hb8; have B8 := Lib.hid (B7.out.trans (hb8.mono B7.out.size)); obtain ⟨q0, q1⟩ := sv_two t8; clear hb8)
          | fail)
      all_goals go_wp2_with fail
      all_goals have O2 := Lib.hid t8
      all_goals clear q0 q1 t0 t7 t8 B6 B7
      all_goals have t0 := O2.out.drew
      all_goals have B6 := Lib.hid (B8.out.drew)
      all_goals obtain ⟨q0, q1⟩ := sv_two t0
      all_goals
        go_region_held3 (fun w' => w'.cell? ⟨w.heap.size, 0, none⟩ = some (.int .i64 (n : Int)) ∧ w'.cell? ⟨w.heap.size, 1, none⟩ = some (.int .i64 0)) ((first | with_reducible exact sv_two t8 | with_reducible exact sv_two t7 | with_reducible exact sv_two t0 | fail))
          (first
            | (go_at_call 54; refine (HOpp.out _).mono ?_; rintro e u7 ⟨rfl, hb7⟩; (first | (have t8 := t7.keep hb7; have B9 := Lib.hid (B7.out.trans (hb7.mono B7.out.size)); obtain ⟨q0, q1⟩ := sv_two t8) | (have t7 := t0.keep hb7; have B7 := Lib.hid (B6.out.trans (hb7.mono B6.out.size)); obtain ⟨q0, q1⟩ := sv_two t7)); clear hb7)
            | fail)
      all_goals go_wp2_with fail
      all_goals go_ret2
      all_goals exact ⟨rfl, B9.out⟩
    · have HDig := Lib.hid (fun W => digit_any n 1 49 48 (.inr ⟨rfl, rfl, rfl⟩) 49 (by decide) W)
      have HOpp := Lib.hid (fun W => opposite_any n 1 49 48 (.inr ⟨rfl, rfl, rfl⟩) 48 (by decide) W)
      go_enter Try.func22, Try.ntmps22
      go_wp2_with fail
      refine (validStuffer_impl _ _ _).mono ?_; rintro e w1 ⟨rfl, hb1⟩
      have B1 := Lib.hid (HB.out.trans (hb1.mono HB.out.size))
      have O1 := Lib.hid (HO.out.keep hb1)
      obtain ⟨q0, q1⟩ := bk_two O1.out
      clear hb1
      rw [HS.out]
      go_wp2_with fail
      clear q0 q1
      have t0 := O1.out.drew
      have B6 := Lib.hid (B1.out.drew)
      obtain ⟨q0, q1⟩ := sv_two t0
      go_region_held3 (fun w' => w'.cell? ⟨w.heap.size, 0, none⟩ = some (.int .i64 (n : Int)) ∧ w'.cell? ⟨w.heap.size, 1, none⟩ = some (.int .i64 1)) ((first | with_reducible exact sv_two t8 | with_reducible exact sv_two t7 | with_reducible exact sv_two t0 | fail))
        (first
          | (go_at_call 61; refine (HDig.out _).mono ?_; rintro e u7 ⟨rfl, hb7⟩; have t7 := t0.keep hb7; have B7 := Lib.hid (B6.out.trans (hb7.mono B6.out.size)); obtain ⟨q0, q1⟩ := sv_two t7; clear hb7)
          | (go_at_call 60; refine (HRep.out _).mono ?_; rintro e u8 ⟨rfl, hb8⟩; have t8 := t7.keep hb8; have B8 := Lib.hid (B7.out.trans (hb8.mono B7.out.size)); obtain ⟨q0, q1⟩ := sv_two t8; clear hb8)
          | fail)
      all_goals go_wp2_with fail
      all_goals have O2 := Lib.hid t8
      all_goals clear q0 q1 t0 t7 t8 B6 B7
      all_goals have t0 := O2.out.drew
      all_goals have B6 := Lib.hid (B8.out.drew)
      all_goals obtain ⟨q0, q1⟩ := sv_two t0
      all_goals
        go_region_held3 (fun w' => w'.cell? ⟨w.heap.size, 0, none⟩ = some (.int .i64 (n : Int)) ∧ w'.cell? ⟨w.heap.size, 1, none⟩ = some (.int .i64 1)) ((first | with_reducible exact sv_two t8 | with_reducible exact sv_two t7 | with_reducible exact sv_two t0 | fail))
          (first
            | (go_at_call 54; refine (HOpp.out _).mono ?_; rintro e u7 ⟨rfl, hb7⟩; (first | (have t8 := t7.keep hb7; have B9 := Lib.hid (B7.out.trans (hb7.mono B7.out.size)); obtain ⟨q0, q1⟩ := sv_two t8) | (have t7 := t0.keep hb7; have B7 := Lib.hid (B6.out.trans (hb7.mono B6.out.size)); obtain ⟨q0, q1⟩ := sv_two t7)); clear hb7)
            | fail)
      all_goals go_wp2_with fail
      all_goals go_ret2
      all_goals exact ⟨rfl, B9.out⟩
end Go.Proofs.Ytllkojakeoennaa
