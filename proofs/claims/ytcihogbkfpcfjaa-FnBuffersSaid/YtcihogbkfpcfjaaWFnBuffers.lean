/- The walk of the law FnBuffers. -/
import Derived.Test.YtcihogbkfpcfjaaBuP
import Derived.Test.YtcihogbkfpcfjaaBsi
import Derived.Test.YtcihogbkfpcfjaaB10
namespace Go.Proofs.Ytcihogbkfpcfjaa
open Go Go.RowKit
set_option linter.unusedVariables false

theorem rdv_keepB {w w' : World} {v : Value} {l : List Value} (h : RdV (· < w.heap.size) w v l) (hb : Below w.heap.size w w') : RdV (· < w'.heap.size) w' v l := by
  obtain ⟨A, n, c, e, hn, h1, h2, h3⟩ := h.keep hb
  refine ⟨A, n, c, e, hn, h1, h2, fun h0 => ?_⟩
  obtain ⟨b, o, ea, hK, hlt, hc⟩ := h3 h0
  exact ⟨b, o, ea, hlt, hlt, hc⟩
theorem btO_at {a b d f : Int} (ha : 2 ≤ a ∧ a ≤ 1000) (hb : 2 ≤ b ∧ b ≤ 1000) (hd : 1 ≤ d ∧ d ≤ 64) (hf : 0 ≤ f ∧ f ≤ d) : btO a b d f = btT a b d f 0 :=
  btV_yes (decide_eq_true ha) (decide_eq_true hb) (decide_eq_true hd) (decide_eq_true hf)
theorem bsO_at {a b d : Int} (ha : 2 ≤ a ∧ a ≤ 1000) (hb : 2 ≤ b ∧ b ≤ 1000) (hd : 1 ≤ d ∧ d ≤ 64) : bsO a b d = bsK a b d (d.toNat + 1) :=
  bsO_yes (decide_eq_true ha) (decide_eq_true hb) (decide_eq_true hd)

set_option maxHeartbeats 4000000 in
set_option maxRecDepth 100000 in
theorem law_FnBuffers (v0 : Value) (l0 : List Value) (k0 : ∀ x ∈ l0, ∃ y : Int, x = .int .u8 y ∧ 0 ≤ y ∧ y ≤ 255) (v1 : Value) (l1 : List Value) (k1 : ∀ x ∈ l1, ∃ y : Int, x = .int .u8 y ∧ 0 ≤ y ∧ y ≤ 255) (w : World) (r0 : RdV (· < w.heap.size) w v0 l0) (r1 : RdV (· < w.heap.size) w v1 l1) :
    Calls Try.prog 11 #[v0, v1] w fun e w' => e = .returned (.bool true) ∧ Below w.heap.size w w' := by
  have HR0 := Lib.hid r0
  have HR1 := Lib.hid r1
  have HK0 := Lib.hid k0
  have HK1 := Lib.hid k1
  obtain ⟨A0, n0, c0, rfl, hn0, -⟩ := r0
  obtain ⟨A1, n1, c1, rfl, hn1, -⟩ := r1
  clear k0 k1 hn0 hn1
  have HL := Lib.hid (fun W => b10Long_any W A0 A1 n0 c0 n1 c1)
  by_cases hz : 1048576 < n0 ∨ 1048576 < n1
  · have hz' : (decide (1048576 < n0) || decide (1048576 < n1)) = true := by rcases hz with h | h <;> simp [h]
    rw [hz'] at HL
    clear hz hz'
    go_enter Try.func11, Try.ntmps11
    go_wp2_with fail
    refine (HL.out _).mono ?_; rintro e w1 ⟨rfl, q, rfl⟩
    go_wp2_with fail
    go_ret
    exact ⟨rfl, below_drewN (Below.refl _ _) q⟩
  · have hz' : (decide (1048576 < n0) || decide (1048576 < n1)) = false := by simp; omega
    rw [hz'] at HL
    clear hz hz'
    have HAT0 : Hid (∀ (k t : Nat), 2 ≤ t ∧ t ≤ 1000000 → k ≤ 1000000 → ∃ a : Int, (0 ≤ a ∧ a < t) ∧ ∀ W, Below w.heap.size w W → Calls Try.prog 35 #[.slice A0 n0 c0, .int .i64 (k : Int), .int .i64 (t : Int)] W fun e w' => e = .returned (.int .i64 a) ∧ W = w') := by
      show ∀ k t, _
      intro k t ht hk
      have h0 : 0 ≤ b10N l0 k t ∧ b10N l0 k t < t := by
        unfold b10N
        split <;> (constructor <;> first | omega | exact Int.emod_nonneg _ (by omega) | exact Int.emod_lt_of_pos _ (by omega))
      refine ⟨b10N l0 k t, h0, fun W hb => ?_⟩
      exact (b10At_any W _ l0 k t ht hk (HR0.out.keep hb) HK0.out).mono fun e w' ⟨he, _, hw⟩ => ⟨he, hw⟩
    have HAT1 : Hid (∀ (k t : Nat), 2 ≤ t ∧ t ≤ 1000000 → k ≤ 1000000 → ∃ a : Int, (0 ≤ a ∧ a < t) ∧ ∀ W, Below w.heap.size w W → Calls Try.prog 35 #[.slice A1 n1 c1, .int .i64 (k : Int), .int .i64 (t : Int)] W fun e w' => e = .returned (.int .i64 a) ∧ W = w') := by
      show ∀ k t, _
      intro k t ht hk
      have h0 : 0 ≤ b10N l1 k t ∧ b10N l1 k t < t := by
        unfold b10N
        split <;> (constructor <;> first | omega | exact Int.emod_nonneg _ (by omega) | exact Int.emod_lt_of_pos _ (by omega))
      refine ⟨b10N l1 k t, h0, fun W hb => ?_⟩
      exact (b10At_any W _ l1 k t ht hk (HR1.out.keep hb) HK1.out).mono fun e w' ⟨he, _, hw⟩ => ⟨he, hw⟩
    obtain ⟨x0, ⟨x00, x01⟩, hx0⟩ := HAT0.out 0 20 (by decide) (by decide)
    obtain ⟨x1, ⟨x10, x11⟩, hx1⟩ := HAT0.out 1 20 (by decide) (by decide)
    obtain ⟨x2, ⟨x20, x21⟩, hx2⟩ := HAT1.out 0 6 (by decide) (by decide)
    have HX0 : Hid (∀ W, Below w.heap.size w W → Calls Try.prog 35 #[.slice A0 n0 c0, .int .i64 0, .int .i64 20] W fun e w' => e = .returned (.int .i64 x0) ∧ W = w') := hx0
    have HX1 : Hid (∀ W, Below w.heap.size w W → Calls Try.prog 35 #[.slice A0 n0 c0, .int .i64 1, .int .i64 20] W fun e w' => e = .returned (.int .i64 x1) ∧ W = w') := hx1
    have HX2 : Hid (∀ W, Below w.heap.size w W → Calls Try.prog 35 #[.slice A1 n1 c1, .int .i64 0, .int .i64 6] W fun e w' => e = .returned (.int .i64 x2) ∧ W = w') := hx2
    obtain ⟨a, ha⟩ : ∃ a, a = 2 + x0 := ⟨_, rfl⟩
    obtain ⟨b, hb⟩ : ∃ b, b = 2 + x1 := ⟨_, rfl⟩
    obtain ⟨d, hd⟩ : ∃ d, d = 1 + x2 := ⟨_, rfl⟩
    have wa : IntKind.i64.wrap (2 + x0) = a := by rw [ha]; exact IntWalk.i64_in _ (by omega)
    have wb : IntKind.i64.wrap (2 + x1) = b := by rw [hb]; exact IntWalk.i64_in _ (by omega)
    have wd : IntKind.i64.wrap (1 + x2) = d := by rw [hd]; exact IntWalk.i64_in _ (by omega)
    have ra : 2 ≤ a ∧ a ≤ 21 := by omega
    have rb : 2 ≤ b ∧ b ≤ 21 := by omega
    have rd : 1 ≤ d ∧ d ≤ 6 := by omega
    clear ha hb hd x00 x01 x10 x11 x20 x21 hx0 hx1 hx2
    obtain ⟨f, ⟨f0, f1⟩, hf⟩ := HAT1.out 1 (d + 1).toNat (by omega) (by decide)
    rw [show (((d + 1).toNat : Nat) : Int) = d + 1 from by omega] at hf f1
    have HF : Hid (∀ W, Below w.heap.size w W → Calls Try.prog 35 #[.slice A1 n1 c1, .int .i64 1, .int .i64 (d + 1)] W fun e w' => e = .returned (.int .i64 f) ∧ W = w') := hf
    clear hf HAT0 HAT1 HR0 HR1 HK0 HK1
    have HBT := Lib.hid (fun g W => bufTime_impl a b d g W)
    have HBS := Lib.hid (fun W => bufSpan_impl a b d W)
    have HFA := Lib.hid (fun t W => fillAt_impl a b f t W)
    obtain ⟨a0, a1⟩ := ra
    obtain ⟨b0, b1⟩ := rb
    obtain ⟨d0, d1⟩ := rd
    by_cases hab : a = b
    · have e1 : btO a b d f = none := by rw [btO_at (by omega) (by omega) (by omega) (by omega), hab]; exact bt_eq (by omega) (by omega) _ _
      have e2 : bsO a b d = none := by rw [hab]; exact bsO_eq
      have HBf := Lib.hid (fun W => HBT.out f W)
      rw [e1] at HBf
      rw [e2] at HBS
      have e3 : ov none = 0 := rfl
      have e4 : (none : Option Int).isSome = false := rfl
      have e5 : o1 none = 0 := rfl
      have e6 : o2 none = 0 := rfl
      have e7 : (none : Option (Int × Int)).isSome = false := rfl
      rw [e3, e4] at HBf
      rw [e5, e6, e7] at HBS
      have s1 : (a != b) = false := bne_f hab
      clear e1 e2 e3 e4 e5 e6 e7 HBT HFA hab
      go_enter Try.func11, Try.ntmps11
      go_wp2_with fail
      refine (HL.out _).mono ?_; rintro e w1 ⟨rfl, q, rfl⟩
      have B1 : Hid (Below w.heap.size w (w.drewN q)) := below_drewN (Below.refl _ _) q
      go_wp2_with fail
      refine (HX0.out _ B1.out).mono ?_; rintro e w' ⟨rfl, rfl⟩
      go_wp2_with fail
      refine (HX1.out _ B1.out).mono ?_; rintro e w' ⟨rfl, rfl⟩
      go_wp2_with fail
      refine (HX2.out _ B1.out).mono ?_; rintro e w' ⟨rfl, rfl⟩
      go_wp2_with fail
      refine (HF.out _ B1.out).mono ?_; rintro e w' ⟨rfl, rfl⟩
      go_wp2_with fail
      refine (HBf.out _).mono ?_; rintro e w2 ⟨rfl, hb2⟩
      have B2 := Lib.hid (B1.out.trans (hb2.mono B1.out.size))
      clear hb2 B1
      go_wp2_with fail
      refine (HBS.out _).mono ?_; rintro e w3 ⟨rfl, hb3⟩
      have B3 := Lib.hid (B2.out.trans (hb3.mono B2.out.size))
      clear hb3 B2
      go_wp2_with fail
      go_ret
      exact ⟨rfl, B3.out⟩
    · obtain ⟨T, hT⟩ := btT_is (d := d) (f := f) a0 a1 b0 b1 d1 f0 (by omega) hab
      obtain ⟨t1, t2, t3, t4⟩ := btT_some (by omega) (by omega) f0 (by omega) hT
      obtain ⟨best, long, hbs⟩ := bsK_is (w := a) (r := b) (d := d) (d.toNat + 1) (fun g hg => btT_is a0 a1 b0 b1 d1 (by omega) (by omega) hab)
      have hbb := bsK_best (by omega) (by omega) _ best long hbs
      obtain ⟨m0, m1, m2, m3, m4, m5⟩ := hbb.resolve_left (fun h => by have := h.1; omega)
      have m6 := m5 f.toNat (by omega) T (by rw [show ((f.toNat : Nat) : Int) = f from by omega]; exact hT)
      have e1 : btO a b d f = some T := by rw [btO_at (by omega) (by omega) (by omega) (by omega)]; exact hT
      have e2 : bsO a b d = some (best, long) := by rw [bsO_at (by omega) (by omega) (by omega)]; exact hbs
      have e8 : btO a b d best = some long := by rw [btO_at (by omega) (by omega) (by omega) (by omega)]; exact m2
      have HBf := Lib.hid (fun W => HBT.out f W)
      have HBb := Lib.hid (fun W => HBT.out best W)
      rw [e1] at HBf
      rw [e2] at HBS
      rw [e8] at HBb
      have e3 : ov (some T) = T := rfl
      have e4 : (some T).isSome = true := rfl
      have e5 : o1 (some (best, long)) = best := rfl
      have e6 : o2 (some (best, long)) = long := rfl
      have e7 : (some (best, long)).isSome = true := rfl
      have e9 : ov (some long) = long := rfl
      have e10 : (some long).isSome = true := rfl
      rw [e3, e4] at HBf
      rw [e5, e6, e7] at HBS
      rw [e9, e10] at HBb
      have s1 : (a != b) = true := bne_t hab
      have HFt : Hid (∀ t, 0 ≤ t → t ≤ 1000000 → ∀ W, Calls Try.prog 29 #[.int .i64 a, .int .i64 b, .int .i64 f, .int .i64 t] W fun e w' => e = .returned (.tuple #[.int .i64 (fil a b f t), .bool true]) ∧ Below W.heap.size W w') := by
        show ∀ _, _
        intro t h0 h1 W
        obtain ⟨u1, u2⟩ := fa_yes (w := a) (r := b) (f := f) (t := t) (decide_eq_true (by omega)) (decide_eq_true (by omega)) (decide_eq_true (by omega)) (decide_eq_true (by omega))
        have := HFA.out t W
        rw [u1, u2] at this
        exact this
      have HIN := Lib.hid t4
      have HFX := Lib.hid (fun W => HFt.out T (by omega) t3 W)
      have hX : fil a b f T < 0 ∨ (¬ fil a b f T < 0 ∧ d < fil a b f T) := by unfold inF at t1; omega
      have hbl : -1000000000 ≤ fil a b f T ∧ fil a b f T ≤ 1000000000 := by
        obtain ⟨y0, y1⟩ := quo_bd (t := T) (w := a) (by omega) (by omega) (by omega)
        obtain ⟨y2, y3⟩ := quo_bd (t := T) (w := b) (by omega) (by omega) (by omega)
        unfold fil; omega
      obtain ⟨h9, h10⟩ := hbl
      generalize fil a b f T = X at *
      have m1' : best ≤ d := by omega
      have s2 : (long == long) = true := by simp
      clear e1 e2 e3 e4 e5 e6 e7 e8 e9 e10 HBT HFA hab t1 t4 hT hbs hbb m2 m5 m1
      go_enter Try.func11, Try.ntmps11
      go_wp2_with fail
      refine (HL.out _).mono ?_; rintro e w1 ⟨rfl, q, rfl⟩
      have B1 : Hid (Below w.heap.size w (w.drewN q)) := below_drewN (Below.refl _ _) q
      go_wp2_with fail
      refine (HX0.out _ B1.out).mono ?_; rintro e w' ⟨rfl, rfl⟩
      go_wp2_with fail
      refine (HX1.out _ B1.out).mono ?_; rintro e w' ⟨rfl, rfl⟩
      go_wp2_with fail
      refine (HX2.out _ B1.out).mono ?_; rintro e w' ⟨rfl, rfl⟩
      go_wp2_with fail
      refine (HF.out _ B1.out).mono ?_; rintro e w' ⟨rfl, rfl⟩
      go_wp2_with fail
      refine (HBf.out _).mono ?_; rintro e w2 ⟨rfl, hb2⟩
      have B2 := Lib.hid (B1.out.trans (hb2.mono B1.out.size))
      clear hb2 B1 wa wb wd HX0 HX1 HX2 HF HL
      go_wp2_with fail
      go_loopw [14] (fun i wr => ∃ t : Int, (0 ≤ t ∧ t ≤ T) ∧ i = .int .i64 t ∧ Below w.heap.size w wr) (fun i _ => (T - intOf i).toNat)
      case atStart => exact ⟨0, ⟨by omega, by omega⟩, rfl, B2.out⟩
      case round =>
        obtain ⟨t, ⟨t00, t01⟩, rfl, hb⟩ := hrel
        have B3 := Lib.hid hb
        clear hb B2
        by_cases hlt : t < T ∧ t < 3000
        · obtain ⟨g1, g2⟩ := hlt
          have HFT := Lib.hid (fun W => HFt.out t t00 (by omega) W)
          have hin := HIN.out t t00 g1
          unfold inF at hin
          obtain ⟨y0, y1⟩ := hin
          have y2 : ¬ fil a b f t < 0 := by omega
          have y3 : ¬ d < fil a b f t := by omega
          clear HIN HFt
          generalize fil a b f t = Y at *
          go_wp2_with fail
          refine (HFT.out _).mono ?_; rintro e w5 ⟨rfl, hb5⟩
          have B5 := Lib.hid (B3.out.trans (hb5.mono B3.out.size))
          clear hb5 B3
          go_wp2_with fail
          go_roundw
          case rel => exact ⟨t + 1, ⟨by omega, by omega⟩, rfl, B5.out⟩
          case measure => simp [intOf]; omega
        · clear HIN HFt
          have hg : ¬ t < T ∨ (t < T ∧ ¬ t < 3000) := by omega
          clear hlt
          rcases hg with hg | ⟨hg, hg2⟩
          all_goals rcases hX with hX | ⟨hX, hX2⟩
          all_goals go_wp2_with fail
          all_goals (refine (HFX.out _).mono ?_; rintro e w5 ⟨rfl, hb5⟩; have B5 := Lib.hid (B3.out.trans (hb5.mono B3.out.size)); clear hb5 B3)
          all_goals go_wp2_with fail
          all_goals (refine (HBS.out _).mono ?_; rintro e w6 ⟨rfl, hb6⟩; have B6 := Lib.hid (B5.out.trans (hb6.mono B5.out.size)); clear hb6 B5)
          all_goals go_wp2_with fail
          all_goals (refine (HBb.out _).mono ?_; rintro e w7 ⟨rfl, hb7⟩; have B7 := Lib.hid (B6.out.trans (hb7.mono B6.out.size)); clear hb7 B6)
          all_goals go_wp2_with fail
          all_goals go_ret
          all_goals exact ⟨rfl, B7.out⟩
end Go.Proofs.Ytcihogbkfpcfjaa
