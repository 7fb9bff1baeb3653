/- What laws draw from bytes: b10Long, b10At, b10Nums, B10Bits, B10Short. -/
import Derived.Test.YtnpigefbdadjfaaR8b
import Derived.Test.YtnpigefbdadjfaaRd
import Derived.Test.YtnpigefbdadjfaaBits
import Derived.Test.YtnpigefbdadjfaaOwn
namespace Go.Proofs.Ytnpigefbdadjfaa
open Go Go.RowKit
set_option linter.unusedVariables false

theorem b10Long_any (w : World) (A1 A2 : Option Addr) (n1 c1 n2 c2 : Nat) :
    Calls Try.prog 7 #[.slice A1 n1 c1, .slice A2 n2 c2] w fun e w' => e = .returned (.bool (decide (1048576 < n1) || decide (1048576 < n2))) ∧ ∃ q, w' = w.drewN q := by
  by_cases h1 : 1048576 < n1
  · rw [decide_eq_true h1, Bool.true_or]
    have h1' : (1048576 : Int) < (n1 : Int) := by omega
    go_enter Try.func7, Try.ntmps7
    go_wp2_with fail
    go_ret
    exact ⟨rfl, 0, rfl⟩
  · rw [decide_eq_false h1, Bool.false_or]
    have h1' : ¬ (1048576 : Int) < (n1 : Int) := by omega
    by_cases h2 : 1048576 < n2
    · rw [decide_eq_true h2]
      have h2' : (1048576 : Int) < (n2 : Int) := by omega
      go_enter Try.func7, Try.ntmps7
      go_wp2_with fail
      go_ret
      exact ⟨rfl, 0, rfl⟩
    · rw [decide_eq_false h2]
      have h2' : ¬ (1048576 : Int) < (n2 : Int) := by omega
      go_enter Try.func7, Try.ntmps7
      go_wp2_with fail
      go_ret
      exact ⟨rfl, 0, rfl⟩

def b10N (l : List Value) (k t : Nat) : Int := match l[k]? with | some (.int _ y) => y % (t : Int) | _ => ((k : Int) * 37 + 11) % (t : Int)
set_option maxRecDepth 100000 in
theorem b10At_any (w : World) (v : Value) (l : List Value) (k t : Nat) (ht : 2 ≤ t ∧ t ≤ 1000000) (hk6 : k ≤ 1000000) {K : Nat → Prop} (h : RdV K w v l) (hb : ∀ x ∈ l, ∃ y : Int, x = .int .u8 y ∧ 0 ≤ y ∧ y ≤ 255) :
    Calls Try.prog 14 #[v, .int .i64 k, .int .i64 t] w fun e w' => e = .returned (.int .i64 (b10N l k t)) ∧ (0 ≤ b10N l k t ∧ b10N l k t < t) ∧ w = w' := by
  have h1 : ¬ (t : Int) ≤ 1 := by omega
  obtain ⟨A, n, c, rfl, hn, -, hx, hr⟩ := h
  have hml : n ≤ 9223372036854775807 := by unfold maxLen at hx; omega
  by_cases hk : k < n
  · obtain ⟨b, o, rfl, -, -, hc⟩ := hr (by omega)
    have hkl : k < l.length := by omega
    obtain ⟨y, hy, y0, y1⟩ := hb _ (List.getElem_mem hkl)
    have hcj := hc k _ (List.getElem?_eq_getElem hkl)
    rw [hy] at hcj
    have HE : Hid (b10N l k t = y % (t : Int)) := by show _ = _; unfold b10N; rw [List.getElem?_eq_getElem hkl, hy]
    have HR : Hid (0 ≤ y % (t : Int) ∧ y % (t : Int) < t) := ⟨Int.emod_nonneg _ (by omega), Int.emod_lt_of_pos _ (by omega)⟩
    have g1 : ¬ (n : Int) ≤ (k : Int) := by omega
    have g2 : (0 : Int) ≤ (k : Int) := by omega
    have g3 : (k : Int) < (n : Int) := by omega
    have g4 : ((t : Int) == 0) = false := by simp; omega
    have g5 : 0 < (t : Int) := by omega
    have wy : IntKind.i64.wrap y = y := IntWalk.i64_in _ (by omega)
    have wz : IntKind.i64.wrap (y % (t : Int)) = y % (t : Int) := IntWalk.i64_in _ (by have := HR.out; omega)
    rw [HE.out]
    clear hc hn hr hb hy hkl hx HE
    go_enter Try.func14, Try.ntmps14
    go_wp2_with fail
    go_ret
    exact ⟨rfl, HR.out, rfl⟩
  · have HE : Hid (b10N l k t = ((k : Int) * 37 + 11) % (t : Int)) := by show _ = _; unfold b10N; rw [List.getElem?_eq_none (by omega)]
    have g1 : ¬ (k : Int) < (n : Int) := by omega
    have HR : Hid (0 ≤ ((k : Int) * 37 + 11) % (t : Int) ∧ ((k : Int) * 37 + 11) % (t : Int) < t) := ⟨Int.emod_nonneg _ (by omega), Int.emod_lt_of_pos _ (by omega)⟩
    have g4 : ((t : Int) == 0) = false := by simp; omega
    have g5 : 0 < (t : Int) := by omega
    have w1 : IntKind.i64.wrap ((k : Int) * 37) = (k : Int) * 37 := IntWalk.i64_in _ (by omega)
    have w2 : IntKind.i64.wrap ((k : Int) * 37 + 11) = (k : Int) * 37 + 11 := IntWalk.i64_in _ (by omega)
    have w3 : IntKind.i64.wrap (((k : Int) * 37 + 11) % (t : Int)) = ((k : Int) * 37 + 11) % (t : Int) := IntWalk.i64_in _ (by have := HR.out; omega)
    have g6 : (0 : Int) ≤ (k : Int) * 37 + 11 := by omega
    rw [HE.out]
    clear hr hn hb hx HE
    go_enter Try.func14, Try.ntmps14
    go_wp2_with fail
    go_ret
    exact ⟨rfl, HR.out, rfl⟩

theorem sameB_ne {a b : List Int} {k : Nat} (h1 : k < a.length) (h2 : k < b.length) (h : a[k] ≠ b[k]) : ¬ a = b := by intro e; subst e; exact h rfl
theorem sameB_eq {a b : List Int} (hl : a.length = b.length) (h : ∀ k (h1 : k < a.length) (h2 : k < b.length), a[k] = b[k]) : a = b := List.ext_getElem hl (fun i h1 h2 => h i h1 h2)
set_option maxRecDepth 100000 in
set_option maxHeartbeats 4000000 in
theorem b10Bits_any (w : World) (v : Value) (l : List Value) (h : RdV (· < w.heap.size) w v l) (hb : ∀ x ∈ l, ∃ y : Int, x = .int .u8 y ∧ 0 ≤ y ∧ y ≤ 255) :
    Calls Try.prog 8 #[v] w fun e w' => ∃ L : List UInt8, e = .returned (.string ⟨L.toArray⟩) ∧ (L.length ≤ 40 ∧ inR 48 49 L = true) ∧ Below w.heap.size w w' := by
  obtain ⟨i0, hi, hz0, hz1, hz2⟩ := info_parts Try.infoByte
  have HF := Lib.hid (src_from v l w h hb)
  clear hb
  obtain ⟨A, n, c, rfl, -⟩ := h
  go_enter Try.func8, Try.ntmps8
  go_wp2_with fail
  refine HF.out.mono ?_; rintro e w1 ⟨rfl, hs1, hb1⟩
  obtain ⟨w2, hw2⟩ : ∃ w2, w2 = w1.alloc (.cells #[] 5) := ⟨_, rfl⟩
  have HW2 := Lib.hid hw2
  have k2 : Below w1.heap.size w1 w2 := by rw [hw2]; exact (Below.refl _ _).alloc (Nat.le_refl _) _
  have S2 := Lib.hid (hs1.keep k2)
  have B2 := Lib.hid (hb1.trans (k2.mono hb1.size))
  have O2 : Hid (w2.ownsRow w.heap.size 5 1 (.slice (some ⟨w1.heap.size, 0, none⟩) 0 0) 0 []) := by
    show World.ownsRow _ _ _ _ _ _ _
    rw [hw2]; exact World.ownsRow_made w1 #[] 0 hb1.size (by decide) rfl
  clear hs1 hb1 k2 hw2
  go_wp2_with fail
  rw [← HW2.out]
  refine (src_pick _ _ _ _ _ 41 _ (by decide) (by decide) S2.out).mono ?_; rintro e w3 ⟨r, rfl, ⟨r0, r1, -⟩, hs3, hg3⟩
  have r2 := r1 (by decide)
  obtain ⟨p, rfl⟩ : ∃ p : Nat, r = (p : Int) := ⟨r.toNat, by omega⟩
  have hp : p ≤ 40 := by omega
  have S3 := Lib.hid hs3
  have O3 := Lib.hid (gk_ownB O2.out S2.out hg3)
  have B3 := Lib.hid (gk_to B2.out hg3 B2.out.size (Nat.le_refl _))
  clear hs3 hg3 S2 O2 B2 r0 r1 r2
  go_wp2_with fail
  go_loopw [4, 5, 6] (fun u bt i wr => ∃ (m : Nat) (M : List UInt8) (y : Int), m ≤ 40 ∧ i = .int .i64 m ∧ bt = .int .u8 y ∧ (48 ≤ y ∧ y ≤ 49) ∧ (M.length + m ≤ 40 ∧ inR 48 49 M = true) ∧ wr.ownsRow w.heap.size 5 1 u M.length (byteVals M) ∧ Src w.heap.size (.slice A n c) l w.heap.size (5000 - 4 * m) wr ∧ Below w.heap.size w wr) (fun _ _ i _ => (intOf i).toNat)
  case atStart => exact ⟨p, [], 48, hp, rfl, rfl, by decide, ⟨by simp; omega, rfl⟩, O3.out, S3.out.more (by omega), B3.out⟩
  case round =>
    obtain ⟨m, M, y, hm, rfl, rfl, ⟨y0, y1⟩, hby, hown, hs, hbw⟩ := hrel
    have HO := Lib.hid hown
    have HS := Lib.hid hs
    have HB := Lib.hid hbw
    have HP := Lib.hid hby
    clear hown hs hbw hby S3 O3 B3
    by_cases hlt : 0 < m
    · obtain ⟨m, rfl⟩ : ∃ m', m = m' + 1 := ⟨m - 1, by omega⟩
      have hlt' : (0 : Int) < ((m + 1 : Nat) : Int) := by omega
      have wm : IntKind.i64.wrap (((m + 1 : Nat) : Int) - 1) = (m : Int) := by rw [IntWalk.i64_in _ (by omega)]; omega
      have hL : M.length ≤ 40 := by have := HP.out.1; omega
      obtain ⟨Av, cv, hAv⟩ := ownt_shape HO.out
      subst hAv
      go_wp2_with fail
      refine (src_one _ _ _ _ _ 2 _ (by omega) (by decide) HS.out).mono ?_; rintro e w8 ⟨z8, rfl, hs8, hg8⟩
      have S8 := Lib.hid hs8
      have O8 := Lib.hid (gk_ownB HO.out HS.out hg8)
      have B8 := Lib.hid (gk_to HB.out hg8 HB.out.size (Nat.le_refl _))
      clear hs8 hg8 HO HS HB
      cases z8
      · obtain ⟨d, hd⟩ := byte_num y (by omega) (by omega)
        have PD : Hid ((48 ≤ (d.toNat : Int) ∧ (d.toNat : Int) ≤ 49) ∧ (Value.int .u8 (d.toNat : Int)) = .int .u8 y) := ⟨by omega, by rw [hd]⟩
        clear hd
        have hrow := O8.out
        go_wp2_with (at_builtin; refine wpList_append_own _ rfl _ _ 22 rfl w.heap.size 5 i0 (.int .u8 0) 1 1 Try.underlying22 hi hz0 hz1 hz2 rfl (by decide) _ _ _ rfl (World.ownsRow.alloc hrow _) ⟨w8.heap.size, 0, none⟩ 1 1 [.int .u8 y] rfl rfl ?_ ?_ ?_ ?_ ?_ ?_)
        all_goals first | exact c1_one _ _ _ | rfl | (intro u hu; simp at hu; subst hu; rfl) | (unfold maxLen; first | omega | (simp; omega)) | (first | omega | (simp; omega)) | (have := B8.out.size; simp at this ⊢; omega) | skip
        intro v1 wz hown1 hgrow1 _
        have BZ := Lib.hid (below_app B8.out B8.out.size hrow hgrow1)
        have OZ : Hid (wz.ownsRow w.heap.size 5 1 v1 (M ++ [d]).length (byteVals (M ++ [d]))) := by
          show World.ownsRow _ _ _ _ _ _ _
          rw [← byteVals_snoc, List.length_append, PD.out.2]; exact hown1
        have SZ := Lib.hid (src_appB S8.out hrow hgrow1)
        clear hrow hgrow1 hown1 O8 S8 B8
        go_wp2_with fail
        go_roundw
        case rel => exact ⟨m, M ++ [d], y, by omega, by first | rfl | (congr 1; omega), rfl, by omega, ⟨by have := HP.out.1; simp; omega, inR_one HP.out.2 PD.out.1⟩, OZ.out, SZ.out.more (by omega), BZ.out⟩
        case measure => first | (simp [intOf]; done) | (simp [intOf]; omega)
      · go_wp2_with fail
        refine (src_pick _ _ _ _ _ 2 _ (by omega) (by decide) S8.out).mono ?_; rintro e w9 ⟨x, rfl, ⟨x0, x1, -⟩, hs9, hg9⟩
        have x2 := x1 (by decide)
        obtain ⟨d, hd⟩ := byte_num (48 + x) (by omega) (by omega)
        have PD : Hid ((48 ≤ (d.toNat : Int) ∧ (d.toNat : Int) ≤ 49) ∧ (Value.int .u8 (d.toNat : Int)) = .int .u8 (48 + x)) := ⟨by omega, by rw [hd]⟩
        have S9 := Lib.hid hs9
        have O9 := Lib.hid (gk_ownB O8.out S8.out hg9)
        have B9 := Lib.hid (gk_to B8.out hg9 B8.out.size (Nat.le_refl _))
        clear hs9 hg9 O8 S8 B8 x1 hd
        have wx : IntKind.i64.wrap (48 + x) = 48 + x := IntWalk.i64_in _ (by omega)
        have wu : IntKind.u8.wrap (48 + x) = 48 + x := IntWalk.u8_in _ (by omega)
        have hrow := O9.out
        go_wp2_with (at_builtin; refine wpList_append_own _ rfl _ _ 22 rfl w.heap.size 5 i0 (.int .u8 0) 1 1 Try.underlying22 hi hz0 hz1 hz2 rfl (by decide) _ _ _ rfl (World.ownsRow.alloc hrow _) ⟨w9.heap.size, 0, none⟩ 1 1 [.int .u8 (48 + x)] rfl rfl ?_ ?_ ?_ ?_ ?_ ?_)
        all_goals first | exact c1_one _ _ _ | rfl | (intro u hu; simp at hu; subst hu; rfl) | (unfold maxLen; first | omega | (simp; omega)) | (first | omega | (simp; omega)) | (have := B9.out.size; simp at this ⊢; omega) | skip
        intro v1 wz hown1 hgrow1 _
        have BZ := Lib.hid (below_app B9.out B9.out.size hrow hgrow1)
        have OZ : Hid (wz.ownsRow w.heap.size 5 1 v1 (M ++ [d]).length (byteVals (M ++ [d]))) := by
          show World.ownsRow _ _ _ _ _ _ _
          rw [← byteVals_snoc, List.length_append, PD.out.2]; exact hown1
        have SZ := Lib.hid (src_appB S9.out hrow hgrow1)
        clear hrow hgrow1 hown1 O9 S9 B9
        go_wp2_with fail
        go_roundw
        case rel => exact ⟨m, M ++ [d], (48 + x), by omega, by first | rfl | (congr 1; omega), rfl, by omega, ⟨by have := HP.out.1; simp; omega, inR_one HP.out.2 PD.out.1⟩, OZ.out, SZ.out.more (by omega), BZ.out⟩
        case measure => first | (simp [intOf]; done) | (simp [intOf]; omega)
    · have hlt' : ¬ (0 : Int) < (m : Int) := by omega
      obtain rfl : m = 0 := by omega
      have hcv := conv_own HO.out
      go_wp2_with fail
      go_ret
      exact ⟨_, rfl, ⟨by have := HP.out.1; omega, HP.out.2⟩, HB.out⟩

theorem rdvS_lit {k : Nat} {W : World} (xs : List ByteArray) (cs : Array Value) (t : TypeId) (hcs : cs = (strVals xs).toArray) (hk : k < W.heap.size) (hx : xs.length ≤ 1000000) : RdV (· ≠ k) (W.alloc (.cells cs t)) (.slice (some ⟨W.heap.size, 0, none⟩) xs.length xs.length) (strVals xs) := by
  subst hcs
  refine ⟨_, _, _, rfl, strVals_length xs, Nat.le_refl _, by unfold maxLen; omega, fun _ => ⟨W.heap.size, 0, rfl, by omega, by simp, fun i x hi => ?_⟩⟩
  rw [Nat.zero_add, World.cell?_alloc_at _ _ _ _ rfl]
  simpa using hi
def shorts : List ByteArray := [⟨#[48]⟩, ⟨#[49]⟩, ⟨#[48, 49]⟩, ⟨#[49, 49]⟩, ⟨#[48, 48, 48]⟩, ⟨#[49, 48, 49]⟩, ⟨#[48, 49, 49, 48]⟩, ⟨#[49, 48]⟩]
theorem shorts_ok : ∀ x ∈ shorts, isB x.data.toList = true ∧ x.data.toList ≠ [] ∧ x.size ≤ 4 := by decide
end Go.Proofs.Ytnpigefbdadjfaa
