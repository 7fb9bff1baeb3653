/- What laws draw from bytes: b10Long, b10At, b10Nums, B10Bits, B10Short. -/
import Derived.Test.YtijmfienaoeboaaR8b
import Derived.Test.YtijmfienaoeboaaRd
import Derived.Test.YtijmfienaoeboaaBits
import Derived.Test.YtijmfienaoeboaaOwn
namespace Go.Proofs.Ytijmfienaoeboaa
open Go Go.RowKit
set_option linter.unusedVariables false

theorem b10Long_any (w : World) (A1 A2 : Option Addr) (n1 c1 n2 c2 : Nat) :
    Calls Try.prog 43 #[.slice A1 n1 c1, .slice A2 n2 c2] w fun e w' => e = .returned (.bool (decide (1048576 < n1) || decide (1048576 < n2))) ∧ ∃ q, w' = w.drewN q := by
  by_cases h1 : 1048576 < n1
  · rw [decide_eq_true h1, Bool.true_or]
    have h1' : (1048576 : Int) < (n1 : Int) := by omega
    go_enter Try.func43, Try.ntmps43
    go_wp2_with fail
    go_ret
    exact ⟨rfl, 0, rfl⟩
  · rw [decide_eq_false h1, Bool.false_or]
    have h1' : ¬ (1048576 : Int) < (n1 : Int) := by omega
    by_cases h2 : 1048576 < n2
    · rw [decide_eq_true h2]
      have h2' : (1048576 : Int) < (n2 : Int) := by omega
      go_enter Try.func43, Try.ntmps43
      go_wp2_with fail
      go_ret
      exact ⟨rfl, 0, rfl⟩
    · rw [decide_eq_false h2]
      have h2' : ¬ (1048576 : Int) < (n2 : Int) := by omega
      go_enter Try.func43, Try.ntmps43
      go_wp2_with fail
      go_ret
      exact ⟨rfl, 0, rfl⟩

def b10N (l : List Value) (k t : Nat) : Int := match l[k]? with | some (.int _ y) => y % (t : Int) | _ => ((k : Int) * 37 + 11) % (t : Int)
set_option maxRecDepth 100000 in
theorem b10At_any (w : World) (v : Value) (l : List Value) (k t : Nat) (ht : 2 ≤ t ∧ t ≤ 1000000) (hk6 : k ≤ 1000000) {K : Nat → Prop} (h : RdV K w v l) (hb : ∀ x ∈ l, ∃ y : Int, x = .int .u8 y ∧ 0 ≤ y ∧ y ≤ 255) :
    Calls Try.prog 48 #[v, .int .i64 k, .int .i64 t] w fun e w' => e = .returned (.int .i64 (b10N l k t)) ∧ (0 ≤ b10N l k t ∧ b10N l k t < t) ∧ w = w' := by
  have h1 : ¬ (t : Int) ≤ 1 := by omega
  obtain ⟨A, n, c, rfl, hn, -, hx, hr⟩ := h
  have hml : n ≤ 9223372036854775807 := by unfold maxLen at hx; omega
  by_cases hk : k < n
  · obtain ⟨b, o, rfl, -, -, hc⟩ := hr (by omega)
    have hkl : k < l.length := by omega
    obtain ⟨y, hy, y0, y1⟩ := hb _ (List.getElem_mem hkl)
    have hcj := hc k _ (List.getElem?_eq_getElem hkl)
    rw [hy] at hcj
    have HE : Hid (b10N l k t = y % (t : Int)) := by show _ = _; unfold b10N; rw [List.getElem?_eq_getElem hkl, hy]
    have HR : Hid (0 ≤ y % (t : Int) ∧ y % (t : Int) < t) := ⟨Int.emod_nonneg _ (by omega), Int.emod_lt_of_pos _ (by omega)⟩
    have g1 : ¬ (n : Int) ≤ (k : Int) := by omega
    have g2 : (0 : Int) ≤ (k : Int) := by omega
    have g3 : (k : Int) < (n : Int) := by omega
    have g4 : ((t : Int) == 0) = false := by simp; omega
    have g5 : 0 < (t : Int) := by omega
    have wy : IntKind.i64.wrap y = y := IntWalk.i64_in _ (by omega)
    have wz : IntKind.i64.wrap (y % (t : Int)) = y % (t : Int) := IntWalk.i64_in _ (by have := HR.out; omega)
    rw [HE.out]
    clear hc hn hr hb hy hkl hx HE
    go_enter Try.func48, Try.ntmps48
    go_wp2_with fail
    go_ret
    exact ⟨rfl, HR.out, rfl⟩
  · have HE : Hid (b10N l k t = ((k : Int) * 37 + 11) % (t : Int)) := by show _ = _; unfold b10N; rw [List.getElem?_eq_none (by omega)]
    have g1 : ¬ (k : Int) < (n : Int) := by omega
    have HR : Hid (0 ≤ ((k : Int) * 37 + 11) % (t : Int) ∧ ((k : Int) * 37 + 11) % (t : Int) < t) := ⟨Int.emod_nonneg _ (by omega), Int.emod_lt_of_pos _ (by omega)⟩
    have g4 : ((t : Int) == 0) = false := by simp; omega
    have g5 : 0 < (t : Int) := by omega
    have w1 : IntKind.i64.wrap ((k : Int) * 37) = (k : Int) * 37 := IntWalk.i64_in _ (by omega)
    have w2 : IntKind.i64.wrap ((k : Int) * 37 + 11) = (k : Int) * 37 + 11 := IntWalk.i64_in _ (by omega)
    have w3 : IntKind.i64.wrap (((k : Int) * 37 + 11) % (t : Int)) = ((k : Int) * 37 + 11) % (t : Int) := IntWalk.i64_in _ (by have := HR.out; omega)
    have g6 : (0 : Int) ≤ (k : Int) * 37 + 11 := by omega
    rw [HE.out]
    clear hr hn hb hx HE
    go_enter Try.func48, Try.ntmps48
    go_wp2_with fail
    go_ret
    exact ⟨rfl, HR.out, rfl⟩

theorem sameB_ne {a b : List Int} {k : Nat} (h1 : k < a.length) (h2 : k < b.length) (h : a[k] ≠ b[k]) : ¬ a = b := by intro e; subst e; exact h rfl
theorem sameB_eq {a b : List Int} (hl : a.length = b.length) (h : ∀ k (h1 : k < a.length) (h2 : k < b.length), a[k] = b[k]) : a = b := List.ext_getElem hl (fun i h1 h2 => h i h1 h2)
set_option maxRecDepth 100000 in
set_option maxHeartbeats 1000000 in
theorem b10Nums_any (w : World) (v1 v2 : Value) (a b : List Int) (h1 : Rd w v1 a) (h2 : Rd w v2 b) :
    Calls Try.prog 51 #[v1, v2] w fun e w' => e = .returned (.bool (decide (a = b))) ∧ ∃ q, w' = w.drewN q := by
  have hlen := h1.len
  have hlen2 := h2.len
  obtain ⟨A1, n, c1, rfl, hn, -, -, r1⟩ := h1
  obtain ⟨A2, m, c2, rfl, hm, -, -, r2⟩ := h2
  have hnl : n ≤ 9223372036854775807 ∧ m ≤ 9223372036854775807 := by unfold maxLen at hlen hlen2; omega
  have HN := Lib.hid hn
  have HM := Lib.hid hm
  have R1 := Lib.hid r1
  have R2 := Lib.hid r2
  clear hlen hlen2 r1 r2 hn hm
  by_cases he : n = m
  rotate_left
  · have HE : Hid (decide (a = b) = false) := decide_eq_false (fun e => he (by rw [← HN.out, ← HM.out, e]))
    have hne : ((n : Int) != (m : Int)) = true := bne_iff_ne.2 (by omega)
    generalize decide (a = b) = X at *
    go_enter Try.func51, Try.ntmps51
    go_wp2_with fail
    go_ret
    exact ⟨ret_bool HE.out.symm, 0, rfl⟩
  subst he
  have hne : ((n : Int) != (n : Int)) = false := by simp
  have HQ := Lib.hid (@sameB_eq a b (by rw [HN.out, HM.out]))
  have HD := Lib.hid (fun (k : Nat) (h1 : k < a.length) (h2 : k < b.length) (h : a[k] ≠ b[k]) => decide_eq_false (sameB_ne h1 h2 h))
  have HT := Lib.hid (fun h => decide_eq_true (HQ.out h))
  generalize hX : decide (a = b) = X at *
  clear hX
  go_enter Try.func51, Try.ntmps51
  go_wp2_with fail
  go_loopw [5] (fun i wr => ∃ k q : Nat, k ≤ n ∧ i = .int .i64 k ∧ wr = w.drewN q ∧ ∀ j (h1 : j < a.length) (h2 : j < b.length), j < k → a[j] = b[j]) (fun i _ => n - (intOf i).toNat)
  case atStart => exact ⟨0, 0, Nat.zero_le _, rfl, rfl, fun j _ _ h => by omega⟩
  case round =>
    obtain ⟨k, q, hk, rfl, rfl, hbe⟩ := hrel
    have HBE := Lib.hid hbe
    clear hbe
    by_cases hlt : k < n
    · obtain ⟨b1, o1, rfl, -, k1⟩ := R1.out (by omega)
      obtain ⟨b2, o2, rfl, -, k2⟩ := R2.out (by omega)
      have hka : k < a.length := by rw [HN.out]; exact hlt
      have hkb : k < b.length := by rw [HM.out]; exact hlt
      have hc1 := k1 k hka
      have hc2 := k2 k hkb
      have hk0 : (0 : Int) ≤ (k : Int) := by omega
      have hk1 : (k : Int) < (n : Int) := by omega
      have HDK := Lib.hid (HD.out k hka hkb)
      obtain ⟨x, hx⟩ : ∃ x, a[k] = x := ⟨_, rfl⟩
      obtain ⟨y, hy⟩ : ∃ y, b[k] = y := ⟨_, rfl⟩
      rw [hx] at hc1
      rw [hy] at hc2
      rw [hx, hy] at HDK
      have HXY := Lib.hid (And.intro hx hy)
      clear k1 k2 hx hy
      by_cases hxy : x = y
      · subst hxy
        go_wp2_with fail
        go_quiet (fail)
        go_wp2_with fail
        go_roundw
        case rel => exact ⟨k + 1, _, by omega, by go_num, rfl, fun j h1 h2 hj => by
          by_cases e : j = k
          · subst e; rw [HXY.out.1, HXY.out.2]
          · exact HBE.out j h1 h2 (by omega)⟩
        case measure => simp [intOf]; omega
      · have HZ := Lib.hid (HDK.out hxy)
        have hq : (x != y) = true := bne_iff_ne.2 hxy
        go_wp2_with fail
        go_quiet (fail)
        go_wp2_with fail
        go_ret
        exact ⟨ret_bool HZ.out.symm, _, World.drewN_drewN _ _ _⟩
    · have HZ := Lib.hid (HT.out (fun j h1 h2 => HBE.out j h1 h2 (by have := HN.out; omega)))
      go_wp2_with fail
      go_ret
      exact ⟨ret_bool HZ.out.symm, _, rfl⟩


set_option maxRecDepth 100000 in
set_option maxHeartbeats 4000000 in
theorem b10Bits_any (w : World) (v : Value) (l : List Value) (h : RdV (· < w.heap.size) w v l) (hb : ∀ x ∈ l, ∃ y : Int, x = .int .u8 y ∧ 0 ≤ y ∧ y ≤ 255) :
    Calls Try.prog 44 #[v] w fun e w' => ∃ L : List UInt8, e = .returned (.string ⟨L.toArray⟩) ∧ (L.length ≤ 40 ∧ inR 48 49 L = true) ∧ Below w.heap.size w w' := by
  obtain ⟨i0, hi, hz0, hz1, hz2⟩ := info_parts Try.infoByte
  have HF := Lib.hid (src_from v l w h hb)
  clear hb
  obtain ⟨A, n, c, rfl, -⟩ := h
  go_enter Try.func44, Try.ntmps44
  go_wp2_with fail
  refine HF.out.mono ?_; rintro e w1 ⟨rfl, hs1, hb1⟩
  obtain ⟨w2, hw2⟩ : ∃ w2, w2 = w1.alloc (.cells #[] 5) := ⟨_, rfl⟩
  have HW2 := Lib.hid hw2
  have k2 : Below w1.heap.size w1 w2 := by rw [hw2]; exact (Below.refl _ _).alloc (Nat.le_refl _) _
  have S2 := Lib.hid (hs1.keep k2)
  have B2 := Lib.hid (hb1.trans (k2.mono hb1.size))
  have O2 : Hid (w2.ownsRow w.heap.size 5 1 (.slice (some ⟨w1.heap.size, 0, none⟩) 0 0) 0 []) := by
    show World.ownsRow _ _ _ _ _ _ _
    rw [hw2]; exact World.ownsRow_made w1 #[] 0 hb1.size (by decide) rfl
  clear hs1 hb1 k2 hw2
  go_wp2_with fail
  rw [← HW2.out]
  refine (src_pick _ _ _ _ _ 41 _ (by decide) (by decide) S2.out).mono ?_; rintro e w3 ⟨r, rfl, ⟨r0, r1, -⟩, hs3, hg3⟩
  have r2 := r1 (by decide)
  obtain ⟨p, rfl⟩ : ∃ p : Nat, r = (p : Int) := ⟨r.toNat, by omega⟩
  have hp : p ≤ 40 := by omega
  have S3 := Lib.hid hs3
  have O3 := Lib.hid (gk_ownB O2.out S2.out hg3)
  have B3 := Lib.hid (gk_to B2.out hg3 B2.out.size (Nat.le_refl _))
  clear hs3 hg3 S2 O2 B2 r0 r1 r2
  go_wp2_with fail
  go_loopw [4, 5, 6] (fun u bt i wr => ∃ (m : Nat) (M : List UInt8) (y : Int), m ≤ 40 ∧ i = .int .i64 m ∧ bt = .int .u8 y ∧ (48 ≤ y ∧ y ≤ 49) ∧ (M.length + m ≤ 40 ∧ inR 48 49 M = true) ∧ wr.ownsRow w.heap.size 5 1 u M.length (byteVals M) ∧ Src w.heap.size (.slice A n c) l w.heap.size (5000 - 4 * m) wr ∧ Below w.heap.size w wr) (fun _ _ i _ => (intOf i).toNat)
  case atStart => exact ⟨p, [], 48, hp, rfl, rfl, by decide, ⟨by simp; omega, rfl⟩, O3.out, S3.out.more (by omega), B3.out⟩
  case round =>
    obtain ⟨m, M, y, hm, rfl, rfl, ⟨y0, y1⟩, hby, hown, hs, hbw⟩ := hrel
    have HO := Lib.hid hown
    have HS := Lib.hid hs
    have HB := Lib.hid hbw
    have HP := Lib.hid hby
    clear hown hs hbw hby S3 O3 B3
    by_cases hlt : 0 < m
    · obtain ⟨m, rfl⟩ : ∃ m', m = m' + 1 := ⟨m - 1, by omega⟩
      have hlt' : (0 : Int) < ((m + 1 : Nat) : Int) := by omega
      have wm : IntKind.i64.wrap (((m + 1 : Nat) : Int) - 1) = (m : Int) := by rw [IntWalk.i64_in _ (by omega)]; omega
      have hL : M.length ≤ 40 := by have := HP.out.1; omega
      obtain ⟨Av, cv, hAv⟩ := ownt_shape HO.out
      subst hAv
      go_wp2_with fail
      refine (src_one _ _ _ _ _ 2 _ (by omega) (by decide) HS.out).mono ?_; rintro e w8 ⟨z8, rfl, hs8, hg8⟩
      have S8 := Lib.hid hs8
      have O8 := Lib.hid (gk_ownB HO.out HS.out hg8)
      have B8 := Lib.hid (gk_to HB.out hg8 HB.out.size (Nat.le_refl _))
      clear hs8 hg8 HO HS HB
      cases z8
      · obtain ⟨d, hd⟩ := byte_num y (by omega) (by omega)
        have PD : Hid ((48 ≤ (d.toNat : Int) ∧ (d.toNat : Int) ≤ 49) ∧ (Value.int .u8 (d.toNat : Int)) = .int .u8 y) := ⟨by omega, by rw [hd]⟩
        clear hd
        have hrow := O8.out
        go_wp2_with (at_builtin; refine wpList_append_own _ rfl _ _ 49 rfl w.heap.size 5 i0 (.int .u8 0) 1 1 Try.underlying49 hi hz0 hz1 hz2 rfl (by decide) _ _ _ rfl (World.ownsRow.alloc hrow _) ⟨w8.heap.size, 0, none⟩ 1 1 [.int .u8 y] rfl rfl ?_ ?_ ?_ ?_ ?_ ?_)
        all_goals first | exact c1_one _ _ _ | rfl | (intro u hu; simp at hu; subst hu; rfl) | (unfold maxLen; first | omega | (simp; omega)) | (first | omega | (simp; omega)) | (have := B8.out.size; simp at this ⊢; omega) | skip
        intro v1 wz hown1 hgrow1 _
        have BZ := Lib.hid (below_app B8.out B8.out.size hrow hgrow1)
        have OZ : Hid (wz.ownsRow w.heap.size 5 1 v1 (M ++ [d]).length (byteVals (M ++ [d]))) := by
          show World.ownsRow _ _ _ _ _ _ _
          rw [← byteVals_snoc, List.length_append, PD.out.2]; exact hown1
        have SZ := Lib.hid (src_appB S8.out hrow hgrow1)
        clear hrow hgrow1 hown1 O8 S8 B8
        go_wp2_with fail
        go_roundw
        case rel => exact ⟨m, M ++ [d], y, by omega, by first | rfl | (congr 1; omega), rfl, by omega, ⟨by have := HP.out.1; simp; omega, inR_one HP.out.2 PD.out.1⟩, OZ.out, SZ.out.more (by omega), BZ.out⟩
        case measure => first | (simp [intOf]; done) | (simp [intOf]; omega)
      · go_wp2_with fail
        refine (src_pick _ _ _ _ _ 2 _ (by omega) (by decide) S8.out).mono ?_; rintro e w9 ⟨x, rfl, ⟨x0, x1, -⟩, hs9, hg9⟩
        have x2 := x1 (by decide)
        obtain ⟨d, hd⟩ := byte_num (48 + x) (by omega) (by omega)
        have PD : Hid ((48 ≤ (d.toNat : Int) ∧ (d.toNat : Int) ≤ 49) ∧ (Value.int .u8 (d.toNat : Int)) = .int .u8 (48 + x)) := ⟨by omega, by rw [hd]⟩
        have S9 := Lib.hid hs9
        have O9 := Lib.hid (gk_ownB O8.out S8.out hg9)
        have B9 := Lib.hid (gk_to B8.out hg9 B8.out.size (Nat.le_refl _))
        clear hs9 hg9 O8 S8 B8 x1 hd
        have wx : IntKind.i64.wrap (48 + x) = 48 + x := IntWalk.i64_in _ (by omega)
        have wu : IntKind.u8.wrap (48 + x) = 48 + x := IntWalk.u8_in _ (by omega)
        have hrow := O9.out
        go_wp2_with (at_builtin; refine wpList_append_own _ rfl _ _ 49 rfl w.heap.size 5 i0 (.int .u8 0) 1 1 Try.underlying49 hi hz0 hz1 hz2 rfl (by decide) _ _ _ rfl (World.ownsRow.alloc hrow _) ⟨w9.heap.size, 0, none⟩ 1 1 [.int .u8 (48 + x)] rfl rfl ?_ ?_ ?_ ?_ ?_ ?_)
        all_goals first | exact c1_one _ _ _ | rfl | (intro u hu; simp at hu; subst hu; rfl) | (unfold maxLen; first | omega | (simp; omega)) | (first | omega | (simp; omega)) | (have := B9.out.size; simp at this ⊢; omega) | skip
        intro v1 wz hown1 hgrow1 _
        have BZ := Lib.hid (below_app B9.out B9.out.size hrow hgrow1)
        have OZ : Hid (wz.ownsRow w.heap.size 5 1 v1 (M ++ [d]).length (byteVals (M ++ [d]))) := by
          show World.ownsRow _ _ _ _ _ _ _
          rw [← byteVals_snoc, List.length_append, PD.out.2]; exact hown1
        have SZ := Lib.hid (src_appB S9.out hrow hgrow1)
        clear hrow hgrow1 hown1 O9 S9 B9
        go_wp2_with fail
        go_roundw
        case rel => exact ⟨m, M ++ [d], (48 + x), by omega, by first | rfl | (congr 1; omega), rfl, by omega, ⟨by have := HP.out.1; simp; omega, inR_one HP.out.2 PD.out.1⟩, OZ.out, SZ.out.more (by omega), BZ.out⟩
        case measure => first | (simp [intOf]; done) | (simp [intOf]; omega)
    · have hlt' : ¬ (0 : Int) < (m : Int) := by omega
      obtain rfl : m = 0 := by omega
      have hcv := conv_own HO.out
      go_wp2_with fail
      go_ret
      exact ⟨_, rfl, ⟨by have := HP.out.1; omega, HP.out.2⟩, HB.out⟩

set_option maxRecDepth 100000 in
theorem src_text (B : Nat) (v : Value) (l : List Value) (k n : Nat) (u : Value) (xs : List ByteArray) (W : World) (hn : n ≤ 900000) (hx : 1 ≤ xs.length ∧ xs.length ≤ 1000000) (h : Src B v l k n W) (hu : RdV (· ≠ k) W u (strVals xs)) :
    Calls Try.prog 102 #[.pointer (some ⟨k, 0, none⟩), u] W fun e w' => ∃ r : ByteArray, e = .returned (.string r) ∧ r ∈ xs ∧ Src B v l k (n + 2) w' ∧ W.grownBy w' (some k) := by
  have HU := Lib.hid hu
  obtain ⟨A, m, c, rfl, hm, hc, hx2, hr⟩ := hu
  rw [strVals_length] at hm
  have H1 := Lib.hid (src_pick B v l k n m W hn (by omega) h)
  have HM := Lib.hid hm
  clear h hr hm hx2
  have hml : m ≤ 1000000 := by have := HM.out; omega
  go_enter Try.func102, Try.ntmps102
  go_wp2_with fail
  refine H1.out.mono ?_; rintro e w1 ⟨r, rfl, ⟨r0, r1, -⟩, hs1, hg1⟩
  have S1 := Lib.hid hs1
  have G1 := Lib.hid hg1
  obtain ⟨j, rfl⟩ : ∃ j : Nat, r = (j : Int) := ⟨r.toNat, by omega⟩
  have r2 := r1 (by have := HM.out; omega)
  have hj : j < xs.length := by have := HM.out; omega
  have hu1 := HU.out.same (fun b hb hl => hg1.block b hl (fun e => by injection e with e; exact hb e)) hg1.size
  obtain ⟨A', m', c', e', -, -, -, hr⟩ := hu1
  injection e' with e1 e2 e3
  subst e1; subst e2; subst e3
  obtain ⟨b, o, rfl, -, -, hcell⟩ := hr (by omega)
  have hcj := hcell j _ (strVals_at xs j hj)
  have HE := Lib.hid (List.getElem_mem hj)
  generalize xs[j] = y at *
  clear hs1 hg1 hr hcell r1
  go_wp2_with fail
  go_ret
  exact ⟨_, rfl, HE.out, S1.out, G1.out⟩
theorem rdvS_lit {k : Nat} {W : World} (xs : List ByteArray) (cs : Array Value) (t : TypeId) (hcs : cs = (strVals xs).toArray) (hk : k < W.heap.size) (hx : xs.length ≤ 1000000) : RdV (· ≠ k) (W.alloc (.cells cs t)) (.slice (some ⟨W.heap.size, 0, none⟩) xs.length xs.length) (strVals xs) := by
  subst hcs
  refine ⟨_, _, _, rfl, strVals_length xs, Nat.le_refl _, by unfold maxLen; omega, fun _ => ⟨W.heap.size, 0, rfl, by omega, by simp, fun i x hi => ?_⟩⟩
  rw [Nat.zero_add, World.cell?_alloc_at _ _ _ _ rfl]
  simpa using hi
def shorts : List ByteArray := [⟨#[48]⟩, ⟨#[49]⟩, ⟨#[48, 49]⟩, ⟨#[49, 49]⟩, ⟨#[48, 48, 48]⟩, ⟨#[49, 48, 49]⟩, ⟨#[48, 49, 49, 48]⟩, ⟨#[49, 48]⟩]
theorem shorts_ok : ∀ x ∈ shorts, isB x.data.toList = true ∧ x.data.toList ≠ [] ∧ x.size ≤ 4 := by decide
set_option maxHeartbeats 1000000 in
theorem b10Short_any (w : World) (v : Value) (l : List Value) (h : RdV (· < w.heap.size) w v l) (hb : ∀ x ∈ l, ∃ y : Int, x = .int .u8 y ∧ 0 ≤ y ∧ y ≤ 255) :
    Calls Try.prog 45 #[v] w fun e w' => ∃ r : ByteArray, e = .returned (.string r) ∧ r ∈ shorts ∧ Below w.heap.size w w' := by
  have HF := Lib.hid (src_from v l w h hb)
  clear hb
  obtain ⟨A, n, c, rfl, -⟩ := h
  go_enter Try.func45, Try.ntmps45
  go_wp2_with fail
  refine HF.out.mono ?_; rintro e w1 ⟨rfl, hs1, hb1⟩
  obtain ⟨w2, hw2⟩ : ∃ w2, w2 = w1.alloc (.cells (strVals shorts).toArray 9) := ⟨_, rfl⟩
  have HW2 := Lib.hid hw2
  have k2 : Below w1.heap.size w1 w2 := by rw [hw2]; exact (Below.refl _ _).alloc (Nat.le_refl _) _
  have S2 := Lib.hid (hs1.keep k2)
  have B2 := Lib.hid (hb1.trans (k2.mono hb1.size))
  have U2 : Hid (RdV (· ≠ w.heap.size) w2 (.slice (some ⟨w1.heap.size, 0, none⟩) 8 8) (strVals shorts)) := by
    show RdV _ _ _ _
    rw [hw2]; exact rdvS_lit shorts _ _ rfl hs1.lt (by decide)
  clear hs1 hb1 k2 hw2
  go_wp2_with fail
  first | rw [← HW2.out] | (rw [show (#[Value.string ⟨#[48]⟩, .string ⟨#[49]⟩, .string ⟨#[48, 49]⟩, .string ⟨#[49, 49]⟩, .string ⟨#[48, 48, 48]⟩, .string ⟨#[49, 48, 49]⟩, .string ⟨#[48, 49, 49, 48]⟩, .string ⟨#[49, 48]⟩] : Array Value) = (strVals shorts).toArray from rfl, ← HW2.out])
  refine (src_text _ _ _ _ _ _ shorts _ (by decide) (by decide) S2.out U2.out).mono ?_; rintro e w3 ⟨r, rfl, hr, hs3, hg3⟩
  have HR := Lib.hid hr
  have B3 := Lib.hid (gk_to B2.out hg3 B2.out.size (Nat.le_refl _))
  clear hs3 hg3 hr
  go_wp2_with fail
  go_ret
  exact ⟨r, rfl, HR.out, B3.out⟩
end Go.Proofs.Ytijmfienaoeboaa
