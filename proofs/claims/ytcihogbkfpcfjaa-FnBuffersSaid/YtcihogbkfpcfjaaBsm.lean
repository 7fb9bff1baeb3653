/- The model's BufferSpan. -/
import Derived.Test.YtcihogbkfpcfjaaBum
namespace Go.Proofs.Ytcihogbkfpcfjaa
open Go Go.RowKit
set_option linter.unusedVariables false


theorem bsO_no {w r d : Int} (h : tkB w = false ∨ tkB r = false ∨ dpB d = false) : bsO w r d = none := by
  unfold bsO tkOk; rcases h with h | h | h <;> rw [h] <;> simp
theorem bsO_yes {w r d : Int} (h1 : tkB w = true) (h2 : tkB r = true) (h3 : dpB d = true) : bsO w r d = bsK w r d (d.toNat + 1) := by
  unfold bsO tkOk; rw [h1, h2, h3]; rfl
theorem bsO_eq {w d : Int} : bsO w w d = none := by
  unfold bsO
  split
  · rename_i h
    have hd : 1 ≤ d ∧ d ≤ 64 := by simp only [Bool.and_eq_true] at h; exact of_decide_eq_true h.2
    have h1 : bsK w w d 1 = none := bsK_no (bt_eq (Int.le_refl _) (by omega) _ _)
    rw [show d.toNat + 1 = 1 + d.toNat from by omega]
    exact bsK_none h1 _
  · rfl
/-- What a search for two numbers tells. -/
def o1 (o : Option (Int × Int)) : Int := (o.getD (0, 0)).1
def o2 (o : Option (Int × Int)) : Int := (o.getD (0, 0)).2
theorem bsK_end {w r d : Int} {k : Nat} (h : btT w r d k 0 = none) (hk : (k : Int) ≤ d) : bsK w r d (d.toNat + 1) = none := by
  have h1 := bsK_no h
  have := bsK_none h1 (d.toNat - k)
  rw [show k + 1 + (d.toNat - k) = d.toNat + 1 from by omega] at this
  exact this
set_option maxRecDepth 100000 in
set_option maxHeartbeats 1000000 in
theorem bufSpan_specE (a b d : Int) (w : World) (hq : (a == b) = true) :
    Calls Try.prog 32 #[.int .i64 a, .int .i64 b, .int .i64 d] w fun e w' => e = .returned (.tuple #[.int .i64 (o1 (bsO a b d)), .int .i64 (o2 (bsO a b d)), .bool (bsO a b d).isSome]) ∧ Below w.heap.size w w' := by
  have HT0 := Lib.hid (l07Ticks_any a w)
  have HT1 := Lib.hid (l07Ticks_any b w)
  have HT2 := Lib.hid (show Calls Try.prog 42 #[.int .i64 d, .int .i64 1, .int .i64 64] w (fun e w' => e = .returned (.bool (dpB d)) ∧ w = w') from in_any d 1 64 w)
  cases g0 : tkB a
  · rw [bsO_no (.inl g0)]
    rw [g0] at HT0
    clear g0 HT1 HT2
    go_enter Try.func32, Try.ntmps32
    go_wp2_with fail
    refine HT0.out.mono ?_; rintro e w' ⟨rfl, rfl⟩
    go_wp2_with fail
    go_ret3
    exact ⟨rfl, Below.refl _ _⟩
  · skip
    cases g1 : tkB b
    · rw [bsO_no (.inr (.inl g1))]
      rw [g0] at HT0
      rw [g1] at HT1
      clear g0 g1 HT2
      go_enter Try.func32, Try.ntmps32
      go_wp2_with fail
      refine HT0.out.mono ?_; rintro e w' ⟨rfl, rfl⟩
      go_wp2_with fail
      refine HT1.out.mono ?_; rintro e w' ⟨rfl, rfl⟩
      go_wp2_with fail
      go_ret3
      exact ⟨rfl, Below.refl _ _⟩
    · skip
      cases g2 : dpB d
      · rw [bsO_no (.inr (.inr g2))]
        rw [g0] at HT0
        rw [g1] at HT1
        rw [g2] at HT2
        clear g0 g1 g2
        go_enter Try.func32, Try.ntmps32
        go_wp2_with fail
        refine HT0.out.mono ?_; rintro e w' ⟨rfl, rfl⟩
        go_wp2_with fail
        refine HT1.out.mono ?_; rintro e w' ⟨rfl, rfl⟩
        go_wp2_with fail
        refine HT2.out.mono ?_; rintro e w' ⟨rfl, rfl⟩
        go_wp2_with fail
        go_ret3
        exact ⟨rfl, Below.refl _ _⟩
      · skip
        have HX : Hid (bsO a b d = none) := by show _ = _; rw [show a = b from by simpa using hq]; exact bsO_eq
        rw [HX.out]
        rw [g0] at HT0
        rw [g1] at HT1
        rw [g2] at HT2
        clear g0 g1 g2
        go_enter Try.func32, Try.ntmps32
        go_wp2_with fail
        refine HT0.out.mono ?_; rintro e w' ⟨rfl, rfl⟩
        go_wp2_with fail
        refine HT1.out.mono ?_; rintro e w' ⟨rfl, rfl⟩
        go_wp2_with fail
        refine HT2.out.mono ?_; rintro e w' ⟨rfl, rfl⟩
        go_wp2_with fail
        go_ret3
        exact ⟨rfl, Below.refl _ _⟩
set_option maxRecDepth 100000 in
set_option maxHeartbeats 1000000 in
theorem bufSpan_specN (a b d : Int) (w : World) (hq : (a == b) = false) :
    Calls Try.prog 32 #[.int .i64 a, .int .i64 b, .int .i64 d] w fun e w' => e = .returned (.tuple #[.int .i64 (o1 (bsO a b d)), .int .i64 (o2 (bsO a b d)), .bool (bsO a b d).isSome]) ∧ Below w.heap.size w w' := by
  have HT0 := Lib.hid (l07Ticks_any a w)
  have HT1 := Lib.hid (l07Ticks_any b w)
  have HT2 := Lib.hid (show Calls Try.prog 42 #[.int .i64 d, .int .i64 1, .int .i64 64] w (fun e w' => e = .returned (.bool (dpB d)) ∧ w = w') from in_any d 1 64 w)
  cases g0 : tkB a
  · rw [bsO_no (.inl g0)]
    rw [g0] at HT0
    clear g0 HT1 HT2
    go_enter Try.func32, Try.ntmps32
    go_wp2_with fail
    refine HT0.out.mono ?_; rintro e w' ⟨rfl, rfl⟩
    go_wp2_with fail
    go_ret3
    exact ⟨rfl, Below.refl _ _⟩
  · skip
    cases g1 : tkB b
    · rw [bsO_no (.inr (.inl g1))]
      rw [g0] at HT0
      rw [g1] at HT1
      clear g0 g1 HT2
      go_enter Try.func32, Try.ntmps32
      go_wp2_with fail
      refine HT0.out.mono ?_; rintro e w' ⟨rfl, rfl⟩
      go_wp2_with fail
      refine HT1.out.mono ?_; rintro e w' ⟨rfl, rfl⟩
      go_wp2_with fail
      go_ret3
      exact ⟨rfl, Below.refl _ _⟩
    · skip
      cases g2 : dpB d
      · rw [bsO_no (.inr (.inr g2))]
        rw [g0] at HT0
        rw [g1] at HT1
        rw [g2] at HT2
        clear g0 g1 g2
        go_enter Try.func32, Try.ntmps32
        go_wp2_with fail
        refine HT0.out.mono ?_; rintro e w' ⟨rfl, rfl⟩
        go_wp2_with fail
        refine HT1.out.mono ?_; rintro e w' ⟨rfl, rfl⟩
        go_wp2_with fail
        refine HT2.out.mono ?_; rintro e w' ⟨rfl, rfl⟩
        go_wp2_with fail
        go_ret3
        exact ⟨rfl, Below.refl _ _⟩
      · skip
        have HT := Lib.hid (fun k W h => l07Time_any a b d k W (tkB_is g0) (tkB_is g1) (of_decide_eq_true g2) h)
        have hd : 1 ≤ d ∧ d ≤ 64 := of_decide_eq_true g2
        have HX : Hid (bsO a b d = bsK a b d (d.toNat + 1)) := by show _ = _; exact bsO_yes g0 g1 g2
        have HEND := Lib.hid (fun k => @bsK_end a b d k)
        have HYES := Lib.hid (fun k x l t => @bsK_yes a b d x l t k)
        have HBD := Lib.hid (fun (k : Nat) (t : Int) (h : btT a b d (k : Int) 0 = some t) => bt_bd (w := a) (r := b) (d := d) (f := k) (by have := tkB_is g0; omega) (by have := tkB_is g1; omega) _ 0 t h)
        obtain ⟨V, hV⟩ : ∃ V, V = bsO a b d := ⟨_, rfl⟩
        rw [← hV] at HX ⊢
        obtain ⟨d0, d1⟩ := hd
        clear hV
        rw [g0] at HT0
        rw [g1] at HT1
        rw [g2] at HT2
        clear g0 g1 g2
        go_enter Try.func32, Try.ntmps32
        go_wp2_with fail
        refine HT0.out.mono ?_; rintro e w' ⟨rfl, rfl⟩
        go_wp2_with fail
        refine HT1.out.mono ?_; rintro e w' ⟨rfl, rfl⟩
        go_wp2_with fail
        refine HT2.out.mono ?_; rintro e w' ⟨rfl, rfl⟩
        go_wp2_with fail
        go_loopw [9, 10, 11] (fun x y i wr => ∃ (k : Nat) (best long : Int), (k : Int) ≤ d + 1 ∧ i = .int .i64 k ∧ x = .int .i64 best ∧ y = .int .i64 long ∧ bsK a b d k = some (best, long) ∧ (-1 ≤ long ∧ long ≤ 1000000) ∧ Below w.heap.size w wr) (fun _ _ i _ => 66 - (intOf i).toNat)
        case atStart => exact ⟨0, 0, -1, by omega, rfl, rfl, rfl, rfl, ⟨by omega, by omega⟩, Below.refl _ _⟩
        case round =>
          obtain ⟨k, best, long, hk, rfl, rfl, rfl, hbs, ⟨l0, l1⟩, hb⟩ := hrel
          have HB := Lib.hid hb
          have HBS := Lib.hid hbs
          clear hb hbs
          by_cases hlt : (k : Int) ≤ d
          · have HTk := Lib.hid (fun W => HT.out (k : Int) W ⟨by omega, hlt⟩)
            cases ht : btT a b d k 0 with
            | none =>
              have HXX : Hid (V = none) := by show _ = _; rw [HX.out]; exact HEND.out k ht hlt
              rw [ht] at HTk
              clear ht HX HT HEND HYES HBD
              have e1 : ov none = 0 := rfl
              have e2 : (none : Option Int).isSome = false := rfl
              rw [e1, e2] at HTk
              go_wp2_with fail
              refine (HTk.out _).mono ?_; rintro e w2 ⟨rfl, hb2⟩
              have HB2 := Lib.hid (HB.out.trans (hb2.mono HB.out.size))
              clear hb2
              go_wp2_with fail
              go_ret3
              exact ⟨by rw [HXX.out]; rfl, HB2.out⟩
            | some t =>
              have hbd := HBD.out k t ht
              have HY := Lib.hid (HYES.out k best long t HBS.out ht)
              rw [ht] at HTk
              have e1 : ov (some t) = t := rfl
              have e2 : (some t).isSome = true := rfl
              rw [e1, e2] at HTk
              clear ht HX HT HEND HYES HBD HBS e1 e2
              by_cases hg : long < t
              · have HZ : Hid (bsK a b d (k + 1) = some ((k : Int), t)) := by show _ = _; rw [HY.out, if_pos hg]
                clear HY
                go_wp2_with fail
                refine (HTk.out _).mono ?_; rintro e w2 ⟨rfl, hb2⟩
                have HB2 := Lib.hid (HB.out.trans (hb2.mono HB.out.size))
                clear hb2
                go_wp2_with fail
                go_roundw
                case rel => exact ⟨k + 1, (k : Int), t, by omega, by go_num, rfl, rfl, HZ.out, ⟨by omega, hbd.2⟩, HB2.out⟩
                case measure => simp [intOf]; omega
              · have HZ : Hid (bsK a b d (k + 1) = some (best, long)) := by show _ = _; rw [HY.out, if_neg hg]
                clear HY
                go_wp2_with fail
                refine (HTk.out _).mono ?_; rintro e w2 ⟨rfl, hb2⟩
                have HB2 := Lib.hid (HB.out.trans (hb2.mono HB.out.size))
                clear hb2
                go_wp2_with fail
                go_roundw
                case rel => exact ⟨k + 1, best, long, by omega, by go_num, rfl, rfl, HZ.out, ⟨by omega, by omega⟩, HB2.out⟩
                case measure => simp [intOf]; omega
          · have hkd : k = d.toNat + 1 := by omega
            have HXX : Hid (V = some (best, long)) := by show _ = _; rw [HX.out, ← hkd, HBS.out]
            clear HX HT HEND HYES HBD HBS hkd
            go_wp2_with fail
            go_ret3
            exact ⟨by rw [HXX.out]; rfl, HB.out⟩

theorem bufSpan_spec (a b d : Int) (w : World) :
    Calls Try.prog 32 #[.int .i64 a, .int .i64 b, .int .i64 d] w fun e w' => e = .returned (.tuple #[.int .i64 (o1 (bsO a b d)), .int .i64 (o2 (bsO a b d)), .bool (bsO a b d).isSome]) ∧ Below w.heap.size w w' := by
  cases h : a == b
  · exact bufSpan_specN a b d w h
  · exact bufSpan_specE a b d w h
end Go.Proofs.Ytcihogbkfpcfjaa
