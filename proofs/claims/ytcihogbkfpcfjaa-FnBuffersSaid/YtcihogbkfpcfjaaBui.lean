/- The program's FillAt and BufferTime. -/
import Derived.Test.YtcihogbkfpcfjaaBum
import Derived.Test.YtcihogbkfpcfjaaCli
namespace Go.Proofs.Ytcihogbkfpcfjaa
open Go Go.RowKit
set_option linter.unusedVariables false


theorem bfValid_any (a b : Int) (w : World) : Calls Try.prog 53 #[.agg #[.int .i64 a, .int .i64 b]] w fun e w' => e = .returned (.bool (tkOk a b)) ∧ Below w.heap.size w w' := by
  have HB : Hid (Below w.heap.size w (w.alloc (.cells #[.int .i64 a, .int .i64 b] 52))) := (Below.refl _ _).alloc (Nat.le_refl _) _
  have HP := Lib.hid (fun W => arePeriods_any a b W)
  generalize tkOk a b = V at *
  go_enter Try.func53, Try.ntmps53
  go_wp2_with fail
  refine (HP.out _).mono ?_; rintro e w' ⟨rfl, rfl⟩
  go_wp2_with fail
  go_ret
  exact ⟨rfl, HB.out⟩
set_option maxRecDepth 100000 in
theorem gainAt_any (a b t : Int) (w : World) (ha : 2 ≤ a ∧ a ≤ 1000) (hb : 2 ≤ b ∧ b ≤ 1000) (ht : 0 ≤ t ∧ t ≤ 1001000) :
    Calls Try.prog 54 #[.agg #[.int .i64 a, .int .i64 b], .int .i64 t] w fun e w' => e = .returned (.int .i64 (t / a - t / b)) ∧ Below w.heap.size w w' := by
  have HB : Hid (Below w.heap.size w (w.alloc (.cells #[.int .i64 a, .int .i64 b] 52))) := (Below.refl _ _).alloc (Nat.le_refl _) _
  have HK : Hid (Bk (w.alloc (.cells #[.int .i64 a, .int .i64 b] 52)) w.heap.size (ckV a b)) := Bk.new w (ckV a b) 52 _ rfl
  obtain ⟨p0, p1⟩ := quo_bd ht.1 ht.2 ha.1
  obtain ⟨q0, q1⟩ := quo_bd ht.1 ht.2 hb.1
  obtain ⟨t0, t1⟩ := ht
  obtain ⟨a0, a1⟩ := ha
  obtain ⟨b0, b1⟩ := hb
  have na : (a == 0) = false := beq_f (by omega)
  have nb : (b == 0) = false := beq_f (by omega)
  have n1 : 0 < a := by omega
  have n2 : 0 < b := by omega
  obtain ⟨r0, r1⟩ := ck_two HK.out
  go_enter Try.func54, Try.ntmps54
  go_wp2_with fail
  go_quiet (fail)
  go_wp2_with fail
  go_ret
  exact ⟨rfl, below_drewN HB.out _⟩
theorem mult_any (t p : Int) (w : World) (hp : 2 ≤ p ∧ p ≤ 1000) (ht : 0 ≤ t ∧ t ≤ 1001000) :
    Calls Try.prog 76 #[.int .i64 t, .int .i64 p] w fun e w' => e = .returned (.int .i64 (mb t p)) ∧ w = w' := by
  have g1 := mb_gt (t := t) (p := p) (by omega)
  have g2 := mb_le (t := t) (p := p) (by omega)
  have w1 : IntKind.i64.wrap ((t / p + 1) * p) = mb t p := IntWalk.i64_in _ (by unfold mb at g1 g2; omega)
  obtain ⟨p0, p1⟩ := quo_bd ht.1 ht.2 hp.1
  obtain ⟨t0, t1⟩ := ht
  obtain ⟨h0, h1⟩ := hp
  have na : (p == 0) = false := beq_f (by omega)
  have n1 : 0 < p := by omega
  generalize mb t p = M at *
  clear g1 g2
  go_enter Try.func76, Try.ntmps76
  go_wp2_with fail
  go_ret
  exact ⟨rfl, rfl⟩
set_option maxRecDepth 100000 in
set_option maxHeartbeats 1000000 in
theorem nextBehind_any (a b t : Int) (w : World) (ha : 2 ≤ a ∧ a ≤ 1000) (hb : 2 ≤ b ∧ b ≤ 1000) (ht : 0 ≤ t ∧ t ≤ 1001000) :
    Calls Try.prog 56 #[.agg #[.int .i64 a, .int .i64 b], .int .i64 t] w fun e w' => e = .returned (.int .i64 (nxT a b t)) ∧ Below w.heap.size w w' := by
  have HB : Hid (Below w.heap.size w (w.alloc (.cells #[.int .i64 a, .int .i64 b] 52))) := (Below.refl _ _).alloc (Nat.le_refl _) _
  have HK : Hid (Bk (w.alloc (.cells #[.int .i64 a, .int .i64 b] 52)) w.heap.size (ckV a b)) := Bk.new w (ckV a b) 52 _ rfl
  have HG : Hid (∀ (W : World) (p X : Int), (p = a ∧ X = mb t a) ∨ (p = b ∧ X = mb t b) → Calls Try.prog 76 #[.int .i64 t, .int .i64 p] W fun e w' => e = .returned (.int .i64 X) ∧ Below W.heap.size W w') := by
    show ∀ _, _
    rintro W p X (⟨rfl, rfl⟩ | ⟨rfl, rfl⟩)
    · exact (mult_any t p W ha ht).mono fun e w' h => ⟨h.1, by rw [← h.2]; exact Below.refl _ _⟩
    · exact (mult_any t p W hb ht).mono fun e w' h => ⟨h.1, by rw [← h.2]; exact Below.refl _ _⟩
  have hv : nxT a b t = min (mb t a) (mb t b) := rfl
  rw [hv]
  generalize mb t a = A at *
  generalize mb t b = B at *
  clear ha hb ht hv
  go_enter Try.func56, Try.ntmps56
  go_wp2_with fail
  have t0 := HK.out.drew
  have B6 := Lib.hid (HB.out.drew)
  have qa := (ck_two t0).1
  have qb := (ck_two t0).2
  go_region_held3 (fun w' => w'.cell? ⟨w.heap.size, 0, none⟩ = some (.int .i64 a) ∧ w'.cell? ⟨w.heap.size, 1, none⟩ = some (.int .i64 b)) ((first | with_reducible exact ck_two t8 | with_reducible exact ck_two t7 | with_reducible exact ck_two t0 | fail))
    (first
      | (go_at_call 76; refine (HG.out _ _ A (by first | exact Or.inl ⟨rfl, rfl⟩)).mono ?_; rintro e u7 ⟨rfl, hb7⟩; have t7 := t0.keep hb7; have B7 := Lib.hid (B6.out.trans (hb7.mono B6.out.size)); have qa := (ck_two t7).1; have qb := (ck_two t7).2; clear hb7)
      | (go_at_call 76; refine (HG.out _ _ B (by first | exact Or.inr ⟨rfl, rfl⟩)).mono ?_; rintro e u8 ⟨rfl, hb8⟩; have t8 := t7.keep hb8; have B8 := Lib.hid (B7.out.trans (hb8.mono B7.out.size)); have qa := (ck_two t8).1; have qb := (ck_two t8).2; clear hb8)
      | fail)
  all_goals clear B6 B7 t0 t7 qa qb
  all_goals go_wp2_with fail
  all_goals go_ret
  all_goals exact ⟨ret_int (by omega), B8.out⟩
set_option maxRecDepth 100000 in
set_option maxHeartbeats 1000000 in
theorem fillAt_impl (a b f t : Int) (w : World) :
    Calls Try.prog 29 #[.int .i64 a, .int .i64 b, .int .i64 f, .int .i64 t] w fun e w' => e = .returned (.tuple #[.int .i64 (faV a b f t), .bool (faS a b f t)]) ∧ Below w.heap.size w w' := by
  have HVAL := Lib.hid (fun W => bfValid_any a b W)
  obtain ⟨W0, hW0⟩ : ∃ W0, W0 = w.alloc (.cells #[.int .i64 a, .int .i64 b] 52) := ⟨_, rfl⟩
  have HB0 : Hid (Below w.heap.size w W0) := by
    show Below _ _ _
    rw [hW0]
    exact (Below.refl _ _).alloc (Nat.le_refl _) _
  have HK0 : Hid (Bk W0 w.heap.size (ckV a b)) := by
    show Bk _ _ _
    rw [hW0]
    exact Bk.new w (ckV a b) 52 _ rfl
  have HW0 := Lib.hid hW0
  obtain ⟨p0, p1⟩ := ck_two HK0.out
  clear hW0
  have HI1 := Lib.hid (fun W => is_any f 0 64 W)
  have HI2 := Lib.hid (fun W => is_any t 0 1000000 W)
  cases h1 : tkOk a b
  · have hne : tkB a = false ∨ tkB b = false := by
      unfold tkOk at h1
      cases h : tkB a
      · exact .inl rfl
      · rw [h] at h1; exact .inr h1
    obtain ⟨e1, e2⟩ := fa_no (w := a) (r := b) (f := f) (t := t) (hne.elim .inl (fun h => .inr (.inl h)))
    rw [e1, e2]
    rw [h1] at HVAL
    clear e1 e2 h1 hne
    go_enter Try.func29, Try.ntmps29
    go_wp2_with fail
    rw [← HW0.out]
    refine (HVAL.out _).mono ?_; rintro e w1 ⟨rfl, hb1⟩
    have HB1 := Lib.hid (HB0.out.trans (hb1.mono HB0.out.size))
    have HK1 := Lib.hid (HK0.out.keep hb1)
    clear hb1 p0 p1
    go_wp2_with fail
    go_ret2
    exact ⟨rfl, HB1.out⟩
  · have ha : tkB a = true := by unfold tkOk at h1; exact (Bool.and_eq_true_iff.1 h1).1
    have hb : tkB b = true := by unfold tkOk at h1; exact (Bool.and_eq_true_iff.1 h1).2
    rw [h1] at HVAL
    cases h2 : decide (0 ≤ f ∧ f ≤ 64)
    · obtain ⟨e1, e2⟩ := fa_no (w := a) (r := b) (f := f) (t := t) (.inr (.inr (.inl h2)))
      rw [e1, e2]
      rw [h2] at HI1
      clear e1 e2 h1 h2 ha hb
      go_enter Try.func29, Try.ntmps29
      go_wp2_with fail
      rw [← HW0.out]
      refine (HVAL.out _).mono ?_; rintro e w1 ⟨rfl, hb1⟩
      have HB1 := Lib.hid (HB0.out.trans (hb1.mono HB0.out.size))
      have HK1 := Lib.hid (HK0.out.keep hb1)
      clear hb1 p0 p1
      go_wp2_with fail
      refine (HI1.out _).mono ?_; rintro e w' ⟨rfl, rfl⟩
      go_wp2_with fail
      go_ret2
      exact ⟨rfl, HB1.out⟩
    · rw [h2] at HI1
      cases h3 : decide (0 ≤ t ∧ t ≤ 1000000)
      · obtain ⟨e1, e2⟩ := fa_no (w := a) (r := b) (f := f) (t := t) (.inr (.inr (.inr h3)))
        rw [e1, e2]
        rw [h3] at HI2
        clear e1 e2 h1 h2 h3 ha hb
        go_enter Try.func29, Try.ntmps29
        go_wp2_with fail
        rw [← HW0.out]
        refine (HVAL.out _).mono ?_; rintro e w1 ⟨rfl, hb1⟩
        have HB1 := Lib.hid (HB0.out.trans (hb1.mono HB0.out.size))
        have HK1 := Lib.hid (HK0.out.keep hb1)
        clear hb1 p0 p1
        go_wp2_with fail
        refine (HI1.out _).mono ?_; rintro e w' ⟨rfl, rfl⟩
        go_wp2_with fail
        refine (HI2.out _).mono ?_; rintro e w' ⟨rfl, rfl⟩
        go_wp2_with fail
        go_ret2
        exact ⟨rfl, HB1.out⟩
      · obtain ⟨e1, e2⟩ := fa_yes ha hb h2 h3
        rw [e1, e2]
        rw [h3] at HI2
        have ht : 0 ≤ t ∧ t ≤ 1000000 := of_decide_eq_true h3
        have hf : 0 ≤ f ∧ f ≤ 64 := of_decide_eq_true h2
        have HGA := Lib.hid (fun W => gainAt_any a b t W (tkB_is ha) (tkB_is hb) (by omega))
        obtain ⟨x0, x1⟩ := quo_bd ht.1 (by omega : t ≤ 1001000) (tkB_is ha).1
        obtain ⟨y0, y1⟩ := quo_bd ht.1 (by omega : t ≤ 1001000) (tkB_is hb).1
        have hV : fil a b f t = f + (t / a - t / b) := by unfold fil; omega
        rw [hV]
        obtain ⟨G, hG⟩ : ∃ G, G = t / a - t / b := ⟨_, rfl⟩
        rw [← hG] at HGA ⊢
        have g0 : -1001000 ≤ G := by omega
        have g1 : G ≤ 1001000 := by omega
        obtain ⟨f0, f1⟩ := hf
        clear e1 e2 h1 h2 h3 ha hb ht x0 x1 y0 y1 hV hG
        go_enter Try.func29, Try.ntmps29
        go_wp2_with fail
        rw [← HW0.out]
        refine (HVAL.out _).mono ?_; rintro e w1 ⟨rfl, hb1⟩
        have HB1 := Lib.hid (HB0.out.trans (hb1.mono HB0.out.size))
        have HK1 := Lib.hid (HK0.out.keep hb1)
        clear hb1 p0 p1
        go_wp2_with fail
        obtain ⟨r0, r1⟩ := ck_two HK1.out
        refine (HI1.out _).mono ?_; rintro e w' ⟨rfl, rfl⟩
        go_wp2_with fail
        refine (HI2.out _).mono ?_; rintro e w' ⟨rfl, rfl⟩
        go_wp2_with fail
        refine (HGA.out _).mono ?_; rintro e w2 ⟨rfl, hb2⟩
        have HB2 := Lib.hid (HB1.out.trans (hb2.mono HB1.out.size))
        clear hb2
        go_wp2_with fail
        go_ret2
        exact ⟨rfl, HB2.out⟩
set_option maxRecDepth 100000 in
set_option maxHeartbeats 1000000 in
theorem bufTime_impl (a b d f : Int) (w : World) :
    Calls Try.prog 31 #[.int .i64 a, .int .i64 b, .int .i64 d, .int .i64 f] w fun e w' => e = .returned (.tuple #[.int .i64 (ov (btO a b d f)), .bool (btO a b d f).isSome]) ∧ Below w.heap.size w w' := by
  have HVAL := Lib.hid (fun W => bfValid_any a b W)
  obtain ⟨W0, hW0⟩ : ∃ W0, W0 = w.alloc (.cells #[.int .i64 a, .int .i64 b] 52) := ⟨_, rfl⟩
  have HB0 : Hid (Below w.heap.size w W0) := by
    show Below _ _ _
    rw [hW0]
    exact (Below.refl _ _).alloc (Nat.le_refl _) _
  have HK0 : Hid (Bk W0 w.heap.size (ckV a b)) := by
    show Bk _ _ _
    rw [hW0]
    exact Bk.new w (ckV a b) 52 _ rfl
  have HW0 := Lib.hid hW0
  obtain ⟨p0, p1⟩ := ck_two HK0.out
  clear hW0
  have HI1 : Hid (∀ W, Calls Try.prog 44 #[.int .i64 d, .int .i64 1, .int .i64 64] W fun e w' => e = .returned (.bool (dpB d)) ∧ W = w') := fun W => is_any d 1 64 W
  have HI2 : Hid (∀ W, Calls Try.prog 44 #[.int .i64 f, .int .i64 0, .int .i64 d] W fun e w' => e = .returned (.bool (flB d f)) ∧ W = w') := fun W => is_any f 0 d W
  cases h1 : tkOk a b
  · have hne : tkB a = false ∨ tkB b = false := by
      unfold tkOk at h1
      cases h : tkB a
      · exact .inl rfl
      · rw [h] at h1; exact .inr h1
    rw [btV_no (hne.elim .inl (fun h => .inr (.inl h)))]
    rw [h1] at HVAL
    clear h1 hne
    go_enter Try.func31, Try.ntmps31
    go_wp2_with fail
    rw [← HW0.out]
    refine (HVAL.out _).mono ?_; rintro e w1 ⟨rfl, hb1⟩
    have HB1 := Lib.hid (HB0.out.trans (hb1.mono HB0.out.size))
    have HK1 := Lib.hid (HK0.out.keep hb1)
    clear hb1 p0 p1
    go_wp2_with fail
    go_ret2
    exact ⟨rfl, HB1.out⟩
  · have ha : tkB a = true := by unfold tkOk at h1; exact (Bool.and_eq_true_iff.1 h1).1
    have hb : tkB b = true := by unfold tkOk at h1; exact (Bool.and_eq_true_iff.1 h1).2
    rw [h1] at HVAL
    cases h2 : dpB d
    · rw [btV_no (.inr (.inr (.inl h2)))]
      rw [h2] at HI1
      clear h1 h2 ha hb
      go_enter Try.func31, Try.ntmps31
      go_wp2_with fail
      rw [← HW0.out]
      refine (HVAL.out _).mono ?_; rintro e w1 ⟨rfl, hb1⟩
      have HB1 := Lib.hid (HB0.out.trans (hb1.mono HB0.out.size))
      have HK1 := Lib.hid (HK0.out.keep hb1)
      clear hb1 p0 p1
      go_wp2_with fail
      refine (HI1.out _).mono ?_; rintro e w' ⟨rfl, rfl⟩
      go_wp2_with fail
      go_ret2
      exact ⟨rfl, HB1.out⟩
    · rw [h2] at HI1
      cases h3 : flB d f
      · rw [btV_no (.inr (.inr (.inr h3)))]
        rw [h3] at HI2
        clear h1 h2 h3 ha hb
        go_enter Try.func31, Try.ntmps31
        go_wp2_with fail
        rw [← HW0.out]
        refine (HVAL.out _).mono ?_; rintro e w1 ⟨rfl, hb1⟩
        have HB1 := Lib.hid (HB0.out.trans (hb1.mono HB0.out.size))
        have HK1 := Lib.hid (HK0.out.keep hb1)
        clear hb1 p0 p1
        go_wp2_with fail
        refine (HI1.out _).mono ?_; rintro e w' ⟨rfl, rfl⟩
        go_wp2_with fail
        refine (HI2.out _).mono ?_; rintro e w' ⟨rfl, rfl⟩
        go_wp2_with fail
        go_ret2
        exact ⟨rfl, HB1.out⟩
      · rw [btV_yes ha hb h2 h3]
        rw [h3] at HI2
        have hd : 1 ≤ d ∧ d ≤ 64 := of_decide_eq_true h2
        have hf : 0 ≤ f ∧ f ≤ d := of_decide_eq_true h3
        have pa := tkB_is ha
        have pb := tkB_is hb
        have HGA := Lib.hid (fun t W h => gainAt_any a b t W pa pb h)
        have HNB := Lib.hid (fun t W h => nextBehind_any a b t W pa pb h)
        have HQ := Lib.hid (fun (t : Int) (h0 : 0 ≤ t) (h1 : t ≤ 1001000) => And.intro (quo_bd h0 h1 pa.1) (quo_bd h0 h1 pb.1))
        have HGT := Lib.hid (fun t => @nxT_gt a b t (by omega) (by omega))
        have HLE := Lib.hid (fun t => And.intro (@mb_le t a (by omega)) (@mb_le t b (by omega)))
        have HLATE := Lib.hid (fun t h => @btT_late a b d f t h)
        have HON := Lib.hid (fun t => @btT_on a b d f t (by omega) (by omega))
        have HOUT := Lib.hid (fun t => @btT_out a b d f t (by omega) (by omega))
        have HNX : Hid (∀ t, nxT a b t = min (mb t a) (mb t b)) := by show ∀ _, _; intro t; rfl
        have HIN := Lib.hid (fun x W => is_any x 0 d W)
        obtain ⟨V, hV⟩ : ∃ V, V = btT a b d f 0 := ⟨_, rfl⟩
        have HV := Lib.hid hV
        rw [← hV]
        obtain ⟨f0, f1⟩ := hf
        obtain ⟨d0, d1⟩ := hd
        clear h1 h2 h3 ha hb hV
        go_enter Try.func31, Try.ntmps31
        go_wp2_with fail
        rw [← HW0.out]
        refine (HVAL.out _).mono ?_; rintro e w1 ⟨rfl, hb1⟩
        have HB1 := Lib.hid (HB0.out.trans (hb1.mono HB0.out.size))
        have HK1 := Lib.hid (HK0.out.keep hb1)
        clear hb1 p0 p1
        go_wp2_with fail
        obtain ⟨r0, r1⟩ := ck_two HK1.out
        refine (HI1.out _).mono ?_; rintro e w' ⟨rfl, rfl⟩
        go_wp2_with fail
        refine (HI2.out _).mono ?_; rintro e w' ⟨rfl, rfl⟩
        have HN0 := Lib.hid (fun W => HNB.out 0 W (by omega))
        go_wp2_with fail
        refine (HN0.out _).mono ?_; rintro e w2 ⟨rfl, hb2⟩
        have HB2 := Lib.hid (HB1.out.trans (hb2.mono HB1.out.size))
        have HK2 := Lib.hid (HK1.out.keep hb2)
        clear hb2 r0 r1 HN0
        go_wp2_with fail
        go_loopw [11] (fun x wr => ∃ t : Int, (0 ≤ t ∧ t ≤ 1000000) ∧ x = .int .i64 (nxT a b t) ∧ V = btT a b d f t ∧ Bk wr w.heap.size (ckV a b) ∧ Below w.heap.size w wr) (fun x _ => (2100000 - intOf x).toNat)
        case atStart => exact ⟨0, ⟨by omega, by omega⟩, rfl, HV.out, HK2.out, HB2.out⟩
        case round =>
          obtain ⟨t, ⟨t0, t1⟩, rfl, hv, hk, hb⟩ := hrel
          have HB := Lib.hid hb
          have HK := Lib.hid hk
          have HVt := Lib.hid hv
          obtain ⟨l1, l2⟩ := HLE.out t
          have hgt := HGT.out t
          have hgt2 := HGT.out (nxT a b t)
          have HLt := Lib.hid (HLATE.out t)
          have HOt := Lib.hid (HON.out t)
          have HUt := Lib.hid (HOUT.out t)
          have hnx := HNX.out t
          have HNT := Lib.hid (fun W => HNB.out (nxT a b t) W)
          obtain ⟨l3, l4⟩ := HLE.out (nxT a b t)
          have hnx2 := HNX.out (nxT a b t)
          obtain ⟨T, hT⟩ : ∃ T, T = nxT a b t := ⟨_, rfl⟩
          rw [← hT] at hgt HLt HOt HUt hnx HNT hgt2 l3 l4 hnx2 ⊢
          have hTT : T ≤ 1001000 := by omega
          have hT2 : nxT a b T ≤ 1002000 := by omega
          clear hb hk hv HLE HGT HLATE HON HOUT HNX HV hT l1 l2 hnx l3 l4 hnx2
          obtain ⟨r0, r1⟩ := ck_two HK.out
          by_cases hlate : 1000000 < T
          · have HX : Hid (V = none) := by show _ = _; rw [HVt.out]; exact HLt.out hlate
            clear HLt HOt HUt HVt HGA HNB HNT hgt2 HQ hT2
            have t9 : decide (T ≤ 1000000) = false := decide_eq_false (by omega)
            go_wp2_with fail
            go_ret2
            exact ⟨by rw [HX.out]; rfl, HB.out⟩
          · have t9 : T ≤ 1000000 := by omega
            have HG := Lib.hid (fun W => HGA.out T W (by omega))
            have HF := Lib.hid (fun W => HNT.out W (by omega))
            have hI := HIN.out (fil a b f T)
            obtain ⟨⟨x0, x1⟩, y0, y1⟩ := HQ.out T (by omega) (by omega)
            have hV : fil a b f T = f + (T / a - T / b) := by unfold fil; omega
            rw [hV] at hI HOt HUt
            obtain ⟨G, hG⟩ : ∃ G, G = T / a - T / b := ⟨_, rfl⟩
            rw [← hG] at HG hI HOt HUt
            have g0 : -1001000 ≤ G := by omega
            have g1 : G ≤ 1001000 := by omega
            clear hV hG x0 x1 y0 y1 HGA HNB HNT HQ hlate
            by_cases hin : 0 ≤ f + G ∧ f + G ≤ d
            · have HVT : Hid (V = btT a b d f T) := by show _ = _; rw [HVt.out]; exact HOt.out t9 hin
              rw [decide_eq_true hin] at hI
              have HI := Lib.hid hI
              clear HLt HOt HUt HVt hin hI
              generalize hS : nxT a b T = S at *
              have HS := Lib.hid hS
              clear hS
              go_wp2_with fail
              refine (HG.out _).mono ?_; rintro e w5 ⟨rfl, hb5⟩
              have HB5 := Lib.hid (HB.out.trans (hb5.mono HB.out.size))
              have HK5 := Lib.hid (HK.out.keep hb5)
              clear hb5 r0 r1
              go_wp2_with fail
              refine (HI.out _).mono ?_; rintro e w' ⟨rfl, rfl⟩
              obtain ⟨r0, r1⟩ := ck_two HK5.out
              go_wp2_with fail
              refine (HF.out _).mono ?_; rintro e w6 ⟨rfl, hb6⟩
              have HB6 := Lib.hid (HB5.out.trans (hb6.mono HB5.out.size))
              have HK6 := Lib.hid (HK5.out.keep hb6)
              clear hb6 r0 r1
              go_wp2_with fail
              go_roundw
              case rel => exact ⟨T, ⟨by omega, t9⟩, by rw [HS.out], HVT.out, HK6.out, HB6.out⟩
              case measure => simp [intOf]; omega
            · have HX : Hid (V = some T) := by show _ = _; rw [HVt.out]; exact HUt.out t9 hin
              rw [decide_eq_false hin] at hI
              have HI := Lib.hid hI
              clear HLt HOt HUt HVt hin hI hgt2 hT2
              go_wp2_with fail
              refine (HG.out _).mono ?_; rintro e w5 ⟨rfl, hb5⟩
              have HB5 := Lib.hid (HB.out.trans (hb5.mono HB.out.size))
              clear hb5 r0 r1
              go_wp2_with fail
              refine (HI.out _).mono ?_; rintro e w' ⟨rfl, rfl⟩
              go_wp2_with fail
              go_ret2
              exact ⟨by rw [HX.out]; rfl, HB5.out⟩
end Go.Proofs.Ytcihogbkfpcfjaa
