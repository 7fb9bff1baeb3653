/- Contracts of l01Dec and of both Decimal. -/
import Derived.Test.YtnpigefbdadjfaaDoorOwn
import Derived.Lib.ItoaLen
import Derived.Lib.SmallJoins
namespace Go.Proofs.YtnpigefbdadjfaaDoor
open Go Go.RowKit
set_option linter.unusedVariables false

/-- The digits of a number, none of 0. -/
def dz (u : Nat) : List UInt8 := if u = 0 then [] else Lib.decDigits u
def dgt (u : Nat) : UInt8 := UInt8.ofNat (48 + u % 10)
theorem dz_step (u : Nat) (h : u ≠ 0) : dz u = dz (u / 10) ++ [dgt u] := by
  unfold dz
  rw [if_neg h, Lib.decDigits]
  by_cases h9 : u < 10
  · rw [dif_pos h9, if_pos (by omega)]
    unfold dgt
    rw [Nat.mod_eq_of_lt h9]; rfl
  · rw [dif_neg h9, if_neg (by omega)]; rfl
theorem dgt_val (u : Nat) : ((dgt u).toNat : Int) = 48 + (u : Int) % 10 := by
  unfold dgt
  rw [UInt8.toNat_ofNat']
  omega
theorem dz_len (u : Nat) (h : u ≤ 9223372036854775808) : (dz u).length ≤ 21 := by
  unfold dz
  by_cases h0 : u = 0
  · rw [if_pos h0]; exact Nat.zero_le _
  · rw [if_neg h0]
    have := Lib.itoa_length_le (-(u : Int)) (by omega) (by omega)
    rw [Lib.itoa_neg u (by omega)] at this
    simp at this; omega
theorem dz_next {u q : Nat} {D : List UInt8} (h : dz u = dz q ++ D.reverse) (hq : q ≠ 0) : dz u = dz (q / 10) ++ (D ++ [dgt q]).reverse := by
  rw [h, dz_step q hq, List.reverse_append]
  simp
theorem dz_bd {u q : Nat} {D : List UInt8} (h : dz u = dz q ++ D.reverse) (hu : u ≤ 9223372036854775808) : D.length ≤ 21 := by
  have := dz_len u hu
  rw [h] at this
  simp at this; omega
theorem rev_next (L : List UInt8) (k : Nat) (h : k < L.length) : L.reverse.take (k + 1) = L.reverse.take k ++ [L[L.length - 1 - k]] := by
  rw [List.take_succ_eq_append_getElem (by simpa using h), List.getElem_reverse]

theorem own_shp {w : World} {base : Nat} {e : TypeId} {n : Nat} {v : Value} {xs : List Value} (h : w.ownsRow base e 1 v n xs) : ∃ A c, v = .slice A n c := by
  rcases h.2 with ⟨rfl, rfl⟩ | ⟨g, cap, cur, rfl, _⟩
  · exact ⟨_, _, rfl⟩
  · exact ⟨_, _, rfl⟩
theorem own_below {w w' : World} {base : Nat} {e : TypeId} {size n : Nat} {v : Value} {xs : List Value} (h : w.ownsRow base e size v n xs) (hb : Below w.heap.size w w') : w'.ownsRow base e size v n xs := by
  refine ⟨h.1, ?_⟩
  rcases h.2 with h' | ⟨g, cap, cur, rfl, h1, hg, h2⟩
  · exact .inl h'
  · have hlt : g < w.heap.size := by
      rcases Nat.lt_or_ge g w.heap.size with h' | h'
      · exact h'
      · rw [Array.getElem?_eq_none h'] at hg; cases hg
    exact .inr ⟨g, cap, cur, rfl, h1, (hb.block g hlt).trans hg, h2⟩
theorem byteVals_at (l : List UInt8) (j : Nat) (h : j < l.length) : (byteVals l)[j]? = some (.int .u8 (l[j].toNat : Int)) := by simp [byteVals, h]

set_option maxRecDepth 100000 in
theorem dec_pos (u : Nat) (h1 : 1 ≤ u) (h2 : u ≤ 9223372036854775807) (w : World) :
    Calls Tryd.prog 91 #[.int .i64 u] w fun e w' => e = .returned (.string ⟨(dz u).toArray⟩) ∧ Below w.heap.size w w' := by
  obtain ⟨i0, hi, hz0, hz1, hz2⟩ := info_parts Tryd.infoByte
  have hu0 : ((u : Int) == 0) = false := by simp; omega
  go_enter Tryd.func91, Tryd.ntmps91
  go_wp2_with fail
  go_loopw [3, 4] (fun v i wr => ∃ (q : Nat) (D : List UInt8), q ≤ u ∧ i = .int .i64 q ∧ Hid (dz u = dz q ++ D.reverse) ∧ wr.ownsRow w.heap.size 5 1 v D.length (byteVals D) ∧ Below w.heap.size w wr) (fun _ i _ => (intOf i).toNat)
  case atStart => exact ⟨u, [], Nat.le_refl _, rfl, show dz u = dz u ++ [].reverse by simp, World.ownsRow_made w #[] 0 (Nat.le_refl _) (by decide) rfl, (Below.refl _ _).alloc (Nat.le_refl _) _⟩
  case round =>
    obtain ⟨q, D, hq, rfl, hD, hown, hb⟩ := hrel
    by_cases hq0 : q = 0
    · subst hq0
      rw [show ((0 : Nat) : Int) = 0 from rfl]
      have hL := hD.out
      rw [show dz 0 = [] from rfl, List.nil_append] at hL
      have HL := Lib.hid hL
      have hlen := dz_bd hD.out (by omega)
      clear hD hL hq
      obtain ⟨Ad, cd, rfl⟩ := own_shp hown
      obtain ⟨w0, rfl⟩ : ∃ x, x = wr := ⟨_, rfl⟩
      have hlt0 : decide ((u : Int) < 0) = false := decide_eq_false (by omega)
      go_wp2_with fail
      go_loopw [6, 7] (fun v i wr => ∃ k : Nat, k ≤ D.length ∧ i = .int .i64 ((D.length : Int) - 1 - k) ∧ wr.ownsRow w0.heap.size 5 1 v k (byteVals (D.reverse.take k)) ∧ Below w0.heap.size w0 wr) (fun _ i _ => (intOf i + 1).toNat)
      case atStart => exact ⟨0, Nat.zero_le _, congrArg (Value.int .i64) (by omega), World.ownsRow_made w0 #[] 0 (Nat.le_refl _) (by decide) rfl, (Below.refl _ _).alloc (Nat.le_refl _) _⟩
      case round =>
        obtain ⟨k, hk, rfl, hown2, hb2⟩ := hrel
        by_cases hlt : k < D.length
        · have HR := Lib.hid (rev_next D k hlt)
          obtain ⟨j, hj⟩ : ∃ j, D.length = k + j + 1 := ⟨D.length - k - 1, by omega⟩
          have hidx : (D.length : Int) - 1 - (k : Int) = (j : Int) := by omega
          have hjl : j < D.length := by omega
          have hjj : D.length - 1 - k = j := by omega
          rw [hidx]
          obtain ⟨g, rfl⟩ : ∃ g, Ad = some ⟨g, 0, none⟩ := by
            rcases hown.2 with ⟨e, e2⟩ | ⟨g, cap, cur, e, _⟩
            · omega
            · injection e with e _ _; exact ⟨g, e⟩
          have hc := (own_below hown hb2).cellAt j (by omega)
          rw [byteVals_at D j hjl] at hc
          have HJ := Lib.hid hj
          have HJJ := Lib.hid hjj
          have HX := Lib.hid hidx
          clear hj hjj hidx
          go_wp2_with (at_builtin; refine wpList_append_own _ rfl _ _ 22 rfl w0.heap.size 5 i0 (.int .u8 0) 1 1 Tryd.underlying22 hi hz0 hz1 hz2 rfl (by decide) _ _ _ rfl (hown2.alloc _) ⟨wr.heap.size, 0, none⟩ 1 1 [.int .u8 (D[j].toNat : Int)] rfl rfl ?c1 ?c2 ?c3 ?c4 ?c5 ?_)
          case c1 => exact c1_one _ _ _
          case c2 => intro u hu; simp at hu; subst hu; rfl
          case c3 => unfold maxLen; omega
          case c4 => omega
          case c5 => have := hb2.size; simp; omega
          intro v' w1 hown' hgrow _
          have hb1 := below_app hb2 hb2.size hown2 hgrow
          have hr := HR.out
          simp only [HJJ.out] at hr
          rw [byteVals_snoc, ← hr] at hown'
          clear hgrow hown2 hb2 HR hr hc
          go_wp2_with fail
          go_roundw
          case rel => exact ⟨k + 1, by omega, congrArg (Value.int .i64) (by have h1 := HX.out; have h2 := HJ.out; omega), hown', hb1⟩
          case measure => simp [intOf]
        · obtain rfl : k = D.length := by omega
          rw [List.take_of_length_le (by simp), ← HL.out] at hown2
          have hcv := conv_own hown2
          have hlt2 : ¬ (0 : Int) ≤ (D.length : Int) - 1 - D.length := by omega
          go_wp2_with fail
          go_ret
          exact ⟨rfl, hb.trans (hb2.mono hb.size)⟩
    · have hq1 : ¬ (q : Int) = 0 := by omega
      have hlen := dz_bd hD.out (by omega)
      have HN := Lib.hid (dz_next hD.out hq0)
      have HV := Lib.hid (dgt_val q)
      have hm0 : (0 : Int) ≤ (q : Int) % 10 := by omega
      have hm1 : (q : Int) % 10 ≤ 9 := by omega
      clear hD
      go_wp2_with (at_builtin; refine wpList_append_own _ rfl _ _ 22 rfl w.heap.size 5 i0 (.int .u8 0) 1 1 Tryd.underlying22 hi hz0 hz1 hz2 rfl (by decide) _ _ _ rfl (hown.alloc _) ⟨wr.heap.size, 0, none⟩ 1 1 [.int .u8 (48 + (q : Int) % 10)] rfl rfl ?c1 ?c2 ?c3 ?c4 ?c5 ?_)
      case c1 => exact c1_one _ _ _
      case c2 => intro u hu; simp at hu; subst hu; rfl
      case c3 => unfold maxLen; omega
      case c4 => omega
      case c5 => have := hb.size; simp; omega
      intro v' w1 hown' hgrow _
      have hb1 := below_app hb hb.size hown hgrow
      rw [← HV.out, byteVals_snoc] at hown'
      clear hgrow hown hb hm0 hm1 HV
      go_wp2_with fail
      go_roundw
      case rel => exact ⟨q / 10, D ++ [dgt q], by omega, by go_num, HN, by simpa using hown', hb1⟩
      case measure => simp [intOf]; omega
set_option maxRecDepth 100000 in
theorem dec_neg (u : Nat) (h1 : 1 ≤ u) (h2 : u ≤ 9223372036854775808) (w : World) :
    Calls Tryd.prog 91 #[.int .i64 (-(u : Int))] w fun e w' => e = .returned (.string ⟨(45 :: dz u).toArray⟩) ∧ Below w.heap.size w w' := by
  obtain ⟨i0, hi, hz0, hz1, hz2⟩ := info_parts Tryd.infoByte
  have hu0 : ((-(u : Int)) == 0) = false := by simp; omega
  go_enter Tryd.func91, Tryd.ntmps91
  go_wp2_with fail
  go_loopw [3, 4] (fun v i wr => ∃ (q : Nat) (D : List UInt8), q ≤ u ∧ i = .int .i64 (-(q : Int)) ∧ Hid (dz u = dz q ++ D.reverse) ∧ wr.ownsRow w.heap.size 5 1 v D.length (byteVals D) ∧ Below w.heap.size w wr) (fun _ i _ => (-(intOf i)).toNat)
  case atStart => exact ⟨u, [], Nat.le_refl _, rfl, show dz u = dz u ++ [].reverse by simp, World.ownsRow_made w #[] 0 (Nat.le_refl _) (by decide) rfl, (Below.refl _ _).alloc (Nat.le_refl _) _⟩
  case round =>
    obtain ⟨q, D, hq, rfl, hD, hown, hb⟩ := hrel
    by_cases hq0 : q = 0
    · subst hq0
      rw [show -((0 : Nat) : Int) = 0 from rfl]
      have hL := hD.out
      rw [show dz 0 = [] from rfl, List.nil_append] at hL
      have HL := Lib.hid hL
      have hlen := dz_bd hD.out (by omega)
      clear hD hL hq
      have hlt0 : (-(u : Int)) < 0 := by omega
      go_wp2_with (at_builtin; refine wpList_append_own _ rfl _ _ 22 rfl w.heap.size 5 i0 (.int .u8 0) 1 1 Tryd.underlying22 hi hz0 hz1 hz2 rfl (by decide) _ _ _ rfl (hown.alloc _) ⟨wr.heap.size, 0, none⟩ 1 1 [.int .u8 45] rfl rfl ?c1 ?c2 ?c3 ?c4 ?c5 ?_)
      case c1 => exact c1_one _ _ _
      case c2 => intro u hu; simp at hu; subst hu; rfl
      case c3 => unfold maxLen; omega
      case c4 => omega
      case c5 => have := hb.size; simp; omega
      intro v' w0 hown' hgrow _
      have hbn := below_app hb hb.size hown hgrow
      rw [show (45 : Int) = ((45 : UInt8).toNat : Int) from rfl, byteVals_snoc] at hown'
      obtain ⟨E, hE⟩ : ∃ E, E = D ++ [45] := ⟨_, rfl⟩
      have hEl : D.length + 1 = E.length := by rw [hE]; simp
      have HL2 : Hid (45 :: dz u = E.reverse) := by show _ = _; rw [hE, HL.out]; simp
      rw [← hE, hEl] at hown'
      have hlenE : E.length ≤ 22 := by omega
      clear hgrow hown hb hE hEl hlen HL
      obtain ⟨Ad, cd, rfl⟩ := own_shp hown'
      go_wp2_with fail
      go_loopw [6, 7] (fun v i wr => ∃ k : Nat, k ≤ E.length ∧ i = .int .i64 ((E.length : Int) - 1 - k) ∧ wr.ownsRow w0.heap.size 5 1 v k (byteVals (E.reverse.take k)) ∧ Below w0.heap.size w0 wr) (fun _ i _ => (intOf i + 1).toNat)
      case atStart => exact ⟨0, Nat.zero_le _, congrArg (Value.int .i64) (by omega), World.ownsRow_made w0 #[] 0 (Nat.le_refl _) (by decide) rfl, (Below.refl _ _).alloc (Nat.le_refl _) _⟩
      case round =>
        obtain ⟨k, hk, rfl, hown2, hb2⟩ := hrel
        by_cases hlt : k < E.length
        · have HR := Lib.hid (rev_next E k hlt)
          obtain ⟨j, hj⟩ : ∃ j, E.length = k + j + 1 := ⟨E.length - k - 1, by omega⟩
          have hidx : (E.length : Int) - 1 - (k : Int) = (j : Int) := by omega
          have hjl : j < E.length := by omega
          have hjj : E.length - 1 - k = j := by omega
          rw [hidx]
          obtain ⟨g, rfl⟩ : ∃ g, Ad = some ⟨g, 0, none⟩ := by
            rcases hown'.2 with ⟨e, e2⟩ | ⟨g, cap, cur, e, _⟩
            · omega
            · injection e with e _ _; exact ⟨g, e⟩
          have hc := (own_below hown' hb2).cellAt j (by omega)
          rw [byteVals_at E j hjl] at hc
          have HJ := Lib.hid hj
          have HJJ := Lib.hid hjj
          have HX := Lib.hid hidx
          clear hj hjj hidx
          go_wp2_with (at_builtin; refine wpList_append_own _ rfl _ _ 22 rfl w0.heap.size 5 i0 (.int .u8 0) 1 1 Tryd.underlying22 hi hz0 hz1 hz2 rfl (by decide) _ _ _ rfl (hown2.alloc _) ⟨wr.heap.size, 0, none⟩ 1 1 [.int .u8 (E[j].toNat : Int)] rfl rfl ?c1 ?c2 ?c3 ?c4 ?c5 ?_)
          case c1 => exact c1_one _ _ _
          case c2 => intro u hu; simp at hu; subst hu; rfl
          case c3 => unfold maxLen; omega
          case c4 => omega
          case c5 => have := hb2.size; simp; omega
          intro v' w1 hown5 hgrow _
          have hb1 := below_app hb2 hb2.size hown2 hgrow
          have hr := HR.out
          simp only [HJJ.out] at hr
          rw [byteVals_snoc, ← hr] at hown5
          clear hgrow hown2 hb2 HR hr hc
          go_wp2_with fail
          go_roundw
          case rel => exact ⟨k + 1, by omega, congrArg (Value.int .i64) (by have h1 := HX.out; have h2 := HJ.out; omega), hown5, hb1⟩
          case measure => simp [intOf]
        · obtain rfl : k = E.length := by omega
          rw [List.take_of_length_le (by simp), ← HL2.out] at hown2
          have hcv := conv_own hown2
          have hlt2 : ¬ (0 : Int) ≤ (E.length : Int) - 1 - E.length := by omega
          go_wp2_with fail
          go_ret
          exact ⟨rfl, hbn.trans (hb2.mono hbn.size)⟩
    · have hq1 : ¬ (-(q : Int)) = 0 := by omega
      have hlen := dz_bd hD.out (by omega)
      have HN := Lib.hid (dz_next hD.out hq0)
      have HV := Lib.hid (dgt_val q)
      have hm0 : (0 : Int) ≤ (q : Int) % 10 := by omega
      have hm1 : (q : Int) % 10 ≤ 9 := by omega
      clear hD
      have ht : Int.tmod (-(q : Int)) 10 = -((q : Int) % 10) := by rw [Int.neg_tmod, Int.tmod_eq_emod_of_nonneg (by omega)]
      have hd : Int.tdiv (-(q : Int)) 10 = -((q : Int) / 10) := by rw [Int.neg_tdiv, Int.tdiv_eq_ediv_of_nonneg (by omega)]
      by_cases hz : (q : Int) % 10 = 0
      · rw [hz] at ht HV
        go_wp2_with (at_builtin; refine wpList_append_own _ rfl _ _ 22 rfl w.heap.size 5 i0 (.int .u8 0) 1 1 Tryd.underlying22 hi hz0 hz1 hz2 rfl (by decide) _ _ _ rfl (hown.alloc _) ⟨wr.heap.size, 0, none⟩ 1 1 [.int .u8 48] rfl rfl ?c1 ?c2 ?c3 ?c4 ?c5 ?_)
        case c1 => exact c1_one _ _ _
        case c2 => intro u hu; simp at hu; subst hu; rfl
        case c3 => unfold maxLen; omega
        case c4 => omega
        case c5 => have := hb.size; simp; omega
        intro v' w1 hown' hgrow _
        have hb1 := below_app hb hb.size hown hgrow
        rw [show (48 : Int) = ((dgt q).toNat : Int) from by rw [HV.out]; rfl, byteVals_snoc] at hown'
        clear hgrow hown hb hm0 hm1 HV ht hz
        go_wp2_with fail
        go_roundw
        case rel => exact ⟨q / 10, D ++ [dgt q], by omega, by go_num, HN, by simpa using hown', hb1⟩
        case measure => simp [intOf]; omega
      · have hlt : (0 : Int) < (q : Int) % 10 := by omega
        go_wp2_with (at_builtin; refine wpList_append_own _ rfl _ _ 22 rfl w.heap.size 5 i0 (.int .u8 0) 1 1 Tryd.underlying22 hi hz0 hz1 hz2 rfl (by decide) _ _ _ rfl (hown.alloc _) ⟨wr.heap.size, 0, none⟩ 1 1 [.int .u8 (48 + (q : Int) % 10)] rfl rfl ?c1 ?c2 ?c3 ?c4 ?c5 ?_)
        case c1 => exact c1_one _ _ _
        case c2 => intro u hu; simp at hu; subst hu; rfl
        case c3 => unfold maxLen; omega
        case c4 => omega
        case c5 => have := hb.size; simp; omega
        intro v' w1 hown' hgrow _
        have hb1 := below_app hb hb.size hown hgrow
        rw [← HV.out, byteVals_snoc] at hown'
        clear hgrow hown hb hm0 hm1 HV ht hz hlt
        go_wp2_with fail
        go_roundw
        case rel => exact ⟨q / 10, D ++ [dgt q], by omega, by go_num, HN, by simpa using hown', hb1⟩
        case measure => simp [intOf]; omega
end Go.Proofs.YtnpigefbdadjfaaDoor
