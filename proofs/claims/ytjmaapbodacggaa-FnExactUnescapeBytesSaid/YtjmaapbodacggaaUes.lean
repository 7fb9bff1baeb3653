/- The model's UnescapeBytes. -/
import Derived.Test.YtjmaapbodacggaaEsc
import Derived.Test.YtjmaapbodacggaaSam
namespace Go.Proofs.Ytjmaapbodacggaa
open Go Go.RowKit
set_option linter.unusedVariables false

def ubOk (sp l : List Int) : Bool := (spOk sp && byOk' 600 l) && (decide ((ueF l).length ≤ 300) && ueOk sp l)
def ubV (sp l : List Int) : List Int := if ubOk sp l then ueF l else []
theorem ubV_no {sp l : List Int} (h : ubOk sp l = false) : ubV sp l = [] := by unfold ubV; rw [h]; rfl
theorem ubV_yes {sp l : List Int} (h : ubOk sp l = true) : ubV sp l = ueF l := by unfold ubV; rw [h]; rfl
theorem ubV_len (sp l : List Int) : (ubV sp l).length ≤ 300 := by
  cases h : ubOk sp l
  · rw [ubV_no h]; simp
  · rw [ubV_yes h]
    unfold ubOk at h
    exact of_decide_eq_true (Bool.and_eq_true_iff.1 (Bool.and_eq_true_iff.1 h).2).1
theorem ub_dec (sp l : List Int) : ueOk sp l = decide (esF sp (ueF l) = l) := rfl
theorem rd_at {w w' : World} {A : Option Addr} {n c : Nat} {l : List Int} (h : Rd w (.slice A n c) l) (k : Nat) (hk : k < n) : ∃ b o, A = some ⟨b, o, none⟩ ∧ ∃ hl : k < l.length, w.cell? ⟨b, o + k, none⟩ = some (.int .i64 l[k]) := by
  obtain ⟨A', n', c', e', hn', -, -, r⟩ := h
  injection e' with e1 e2 e3
  subst e1; subst e2; subst e3
  obtain ⟨b, o, e, -, hc⟩ := r (by omega)
  exact ⟨b, o, e, by omega, hc k (by omega)⟩

set_option maxRecDepth 100000 in
set_option maxHeartbeats 2000000 in
theorem unescapeBytes_spec (w : World) (vs vb : Value) (sp l : List Int) (hs : Rd w vs sp) (hl : Rd w vb l) (bs : ∀ n ∈ sp, -9223372036854775808 ≤ n ∧ n ≤ 9223372036854775807) :
    Calls Try.prog 30 #[vs, vb] w fun e w' => ∃ v, e = .returned (.tuple #[v, .bool (ubOk sp l)]) ∧ Own w' w.heap.size v (ubV sp l) ∧ Below w.heap.size w w' := by
  have H1 := Lib.hid (l04Special_spec w vs sp bs hs)
  have H2 := Lib.hid (fun q => l04Bytes_spec (w.drewN q) vb l 600 (by decide) (hl.drewN q))
  cases h1 : spOk sp
  · have e : ubOk sp l = false := by unfold ubOk; rw [h1]; rfl
    rw [ubV_no e, e]
    rw [h1] at H1
    clear h1 e hs hl bs
    go_enter Try.func30, Try.ntmps30
    go_wp2_with fail
    refine H1.out.mono ?_; rintro e w' ⟨rfl, q, rfl⟩
    go_wp2_with fail
    go_ret2
    exact ⟨_, rfl, own_none _ _, below_drewN (Below.refl _ _) _⟩
  rw [h1] at H1
  cases h2 : byOk' 600 l
  · have e : ubOk sp l = false := by unfold ubOk; rw [h2]; simp
    rw [ubV_no e, e]
    rw [h2] at H2
    clear h1 h2 e hs hl bs
    go_enter Try.func30, Try.ntmps30
    go_wp2_with fail
    refine H1.out.mono ?_; rintro e w' ⟨rfl, q, rfl⟩
    go_wp2_with fail
    refine (H2.out _).mono ?_; rintro e w' ⟨rfl, rfl⟩
    go_wp2_with fail
    go_ret2
    exact ⟨_, rfl, own_none _ _, below_drewN (Below.refl _ _) _⟩
  · have hlen : l.length ≤ 600 := by
      unfold byOk' at h2
      exact of_decide_eq_true (Bool.and_eq_true_iff.1 h2).1
    have HOK : Hid (ubOk sp l = (decide ((ueF l).length ≤ 300) && decide (esF sp (ueF l) = l))) := by show _ = _; unfold ubOk; rw [h1, h2]; rfl
    have HN1 := Lib.hid (@ubV_no sp l)
    have HY1 := Lib.hid (@ubV_yes sp l)
    have HLE := Lib.hid (ueF_len l)
    rw [h2] at H2
    obtain ⟨i0, hi, hz0, hz1, hz2⟩ := info_parts Try.infoInt
    have HS0 := Lib.hid hs
    have HV0 := Lib.hid hl
    obtain ⟨A, n, c, rfl, hn, -, -, -⟩ := hl
    have HN := Lib.hid hn
    have HLL := Lib.hid hlen
    rw [hn] at hlen
    clear h1 h2 hs bs hn
    generalize ubV sp l = VV at *
    generalize ubOk sp l = OK at *
    go_enter Try.func30, Try.ntmps30
    go_wp2_with fail
    refine H1.out.mono ?_; rintro e w' ⟨rfl, q, rfl⟩
    go_wp2_with fail
    refine (H2.out _).mono ?_; rintro e w' ⟨rfl, rfl⟩
    have HB0 := Lib.hid (below_drewN (Below.refl w.heap.size w) q)
    go_wp2_with fail
    go_loopw [6, 7] (fun v i wr => ∃ (k : Nat) (M : List Int), k ≤ n ∧ i = .int .i64 k ∧ ueF l = M ++ ueF (l.drop k) ∧ M.length ≤ k ∧ Own wr w.heap.size v M ∧ Below w.heap.size w wr) (fun _ i _ => n - (intOf i).toNat)
    case atStart => exact ⟨0, [], Nat.zero_le _, rfl, rfl, Nat.le_refl _, World.ownsRow_made (w.drewN q) #[] 0 (by simp) (by decide) rfl, HB0.out.alloc (by simp) _⟩
    case round =>
      obtain ⟨k, M, hk, rfl, hue, hML, hown, hbw⟩ := hrel
      by_cases hlt : k < n
      · obtain ⟨b, o, rfl, hkl, hc0⟩ := rd_at (w' := wr) (HV0.out.keep hbw) k hlt
        have hk0 : (0 : Int) ≤ (k : Int) := by omega
        have hk1 : (k : Int) < (n : Int) := by omega
        have hdr : l.drop k = l[k] :: l.drop (k + 1) := List.drop_eq_getElem_cons hkl
        obtain ⟨y, hy⟩ : ∃ y, l[k] = y := ⟨_, rfl⟩
        rw [hy] at hc0 hdr
        rw [hdr] at hue
        by_cases hy5 : y = 125
        · have hq : (y == 125) = true := beq_t hy5
          by_cases hlt2 : k + 1 < n
          · obtain ⟨b', o', e', hkl2, hc1⟩ := rd_at (w' := wr) (HV0.out.keep hbw) (k + 1) hlt2
            injection e' with e'; injection e' with e1 e2 _
            subst e1; subst e2
            have hdr2 : l.drop (k + 1) = l[k + 1] :: l.drop (k + 1 + 1) := List.drop_eq_getElem_cons hkl2
            obtain ⟨z, hz⟩ : ∃ z, l[k + 1] = z := ⟨_, rfl⟩
            rw [hz] at hc1 hdr2
            have HU : Hid (ueF l = (M ++ [x32 z]) ++ ueF (l.drop (k + 1 + 1))) := by show _ = _; rw [hue, hdr2, hy5, ueF_esc]; simp
            have hk2 : (k : Int) + 1 < (n : Int) := by omega
            have hk3 : (0 : Int) ≤ (k : Int) + 1 := by omega
            have hk4 : ((k : Int) + 1).toNat = k + 1 := by omega
            have hw : IntKind.i64.wrap ((k : Int) + 1) = (k : Int) + 1 := IntWalk.i64_in _ (by omega)
            clear hue hdr hdr2 hy hz
            subst hy5
            go_wp2_with (at_builtin; refine wpList_append_own _ rfl _ _ 22 rfl w.heap.size 2 i0 (.int .i64 0) 1 8 Try.underlying22 hi hz0 hz1 hz2 rfl (by decide) _ _ _ rfl (hown.alloc _) ⟨wr.heap.size, 0, none⟩ 1 1 [.int .i64 (bits .xor .i64 z 32)] rfl rfl ?q1c1 ?q1c2 ?q1c3 ?q1c4 ?q1c5 ?_)
            case q1c2 => first | rfl | (intro u hu; simp at hu; subst hu; rfl)
            case q1c3 => unfold maxLen; first | omega | (simp; omega)
            case q1c4 => first | omega | (simp; omega)
            case q1c5 => have := hbw.size; simp at this ⊢; omega
            intro v1 w1 hown1 hgrow1 _
            have hb1 := below_int hbw hbw.size (Nat.le_refl _) hown hgrow1
            have ho1 : Own w1 w.heap.size v1 (M ++ [x32 z]) := by
              refine own_of hown1 ?_ ?_
              · simp
              · simp [intVals, x32]
            clear hown hgrow1 hown1
            go_wp2_with fail
            go_roundw
            case rel => exact ⟨k + 1 + 1, M ++ [x32 z], by omega, by go_num, HU.out, by simp; omega, ho1, hb1⟩
            case measure => simp [intOf]; omega
          · have hE : l.drop (k + 1) = [] := List.drop_eq_nil_of_le (by have := HN.out; omega)
            have HU : Hid (ueF l = (M ++ [125]) ++ ueF (l.drop (k + 1))) := by show _ = _; rw [hue, hE, hy5, ueF_end]; simp [ueF]
            have hk2 : ¬ (k : Int) + 1 < (n : Int) := by omega
            clear hue hdr hy hE
            subst hy5
            go_wp2_with (at_builtin; refine wpList_append_own _ rfl _ _ 22 rfl w.heap.size 2 i0 (.int .i64 0) 1 8 Try.underlying22 hi hz0 hz1 hz2 rfl (by decide) _ _ _ rfl (hown.alloc _) ⟨wr.heap.size, 0, none⟩ 1 1 [.int .i64 125] rfl rfl ?q2c1 ?q2c2 ?q2c3 ?q2c4 ?q2c5 ?_)
            case q2c2 => first | rfl | (intro u hu; simp at hu; subst hu; rfl)
            case q2c3 => unfold maxLen; first | omega | (simp; omega)
            case q2c4 => first | omega | (simp; omega)
            case q2c5 => have := hbw.size; simp at this ⊢; omega
            intro v1 w1 hown1 hgrow1 _
            have hb1 := below_int hbw hbw.size (Nat.le_refl _) hown hgrow1
            have ho1 : Own w1 w.heap.size v1 (M ++ [125]) := by
              refine own_of hown1 ?_ ?_
              · simp
              · simp [intVals]
            clear hown hgrow1 hown1
            go_wp2_with fail
            go_roundw
            case rel => exact ⟨k + 1, M ++ [125], by omega, by go_num, HU.out, by simp; omega, ho1, hb1⟩
            case measure => simp [intOf]; omega
        · have hq : (y == 125) = false := beq_f hy5
          have HU : Hid (ueF l = (M ++ [y]) ++ ueF (l.drop (k + 1))) := by show _ = _; rw [hue, ueF_plain hy5]; simp
          clear hue hdr hy
          go_wp2_with (at_builtin; refine wpList_append_own _ rfl _ _ 22 rfl w.heap.size 2 i0 (.int .i64 0) 1 8 Try.underlying22 hi hz0 hz1 hz2 rfl (by decide) _ _ _ rfl (hown.alloc _) ⟨wr.heap.size, 0, none⟩ 1 1 [.int .i64 y] rfl rfl ?q3c1 ?q3c2 ?q3c3 ?q3c4 ?q3c5 ?_)
          case q3c1 => exact c1_int1 _ _ _
          case q3c2 => first | rfl | (intro u hu; simp at hu; subst hu; rfl)
          case q3c3 => unfold maxLen; first | omega | (simp; omega)
          case q3c4 => first | omega | (simp; omega)
          case q3c5 => have := hbw.size; simp at this ⊢; omega
          intro v1 w1 hown1 hgrow1 _
          have hb1 := below_int hbw hbw.size (Nat.le_refl _) hown hgrow1
          have ho1 : Own w1 w.heap.size v1 (M ++ [y]) := by
            refine own_of hown1 ?_ ?_
            · simp
            · simp [intVals]
          clear hown hgrow1 hown1
          go_wp2_with fail
          go_roundw
          case rel => exact ⟨k + 1, M ++ [y], by omega, by go_num, HU.out, by simp; omega, ho1, hb1⟩
          case measure => simp [intOf]; omega
      · have HE : Hid (ueF l = M) := by show _ = _; rw [hue, List.drop_eq_nil_of_le (by have := HN.out; omega)]; simp [ueF]
        have hokx := HOK.out
        have hyx := HY1.out
        rw [HE.out] at hokx hyx
        have hle := HLE.out
        rw [HE.out] at hle
        have HO := Lib.hid hown
        have HB := Lib.hid hbw
        have hll := HLL.out
        obtain ⟨A6, c6, rfl⟩ := own_shape hown
        by_cases h3 : M.length ≤ 300
        · have hm3 : ¬ (300 : Int) < (M.length : Int) := by omega
          rw [decide_eq_true h3, Bool.true_and] at hokx
          have HX := Lib.hid (l04Escape_any wr vs (.slice A6 M.length c6) sp M (HS0.out.keep hbw) hown.rd (by omega))
          by_cases h4 : esF sp M = l
          · rw [decide_eq_true h4] at hokx
            have HZ := Lib.hid (And.intro hokx (hyx hokx))
            have H4 := Lib.hid (decide_eq_true h4)
            clear hokx hyx hle hown hbw hue h4
            go_wp2_with fail
            refine HX.out.mono ?_; rintro e w2 ⟨v2, rfl, ho2, hb2⟩
            have HSM := Lib.hid (l00Same_any w2 v2 (.slice A n c) _ l ho2.rd ((HV0.out.keep HB.out).keep hb2))
            have B2 := Lib.hid (HB.out.trans (hb2.mono HB.out.size))
            have O2 := Lib.hid (HO.out.keep hb2)
            clear ho2 hb2
            rw [H4.out] at HSM
            go_wp2_with fail
            refine HSM.out.mono ?_; rintro e w3 ⟨rfl, q3, rfl⟩
            go_wp2_with fail
            go_ret2
            rw [HZ.out.1, HZ.out.2]
            exact ⟨_, rfl, own_drewN O2.out q3, below_drewN B2.out q3⟩
          · rw [decide_eq_false h4] at hokx
            have HZ := Lib.hid (And.intro hokx (HN1.out hokx))
            have H4 := Lib.hid (decide_eq_false h4)
            clear hokx hyx hle hown hbw hue h4
            go_wp2_with fail
            refine HX.out.mono ?_; rintro e w2 ⟨v2, rfl, ho2, hb2⟩
            have HSM := Lib.hid (l00Same_any w2 v2 (.slice A n c) _ l ho2.rd ((HV0.out.keep HB.out).keep hb2))
            have B2 := Lib.hid (HB.out.trans (hb2.mono HB.out.size))
            clear ho2 hb2
            rw [H4.out] at HSM
            go_wp2_with fail
            refine HSM.out.mono ?_; rintro e w3 ⟨rfl, q3, rfl⟩
            go_wp2_with fail
            go_ret2
            rw [HZ.out.1, HZ.out.2]
            exact ⟨_, rfl, own_none _ _, below_drewN B2.out q3⟩
        · have hm3 : (300 : Int) < (M.length : Int) := by omega
          rw [decide_eq_false h3, Bool.false_and] at hokx
          have HZ := Lib.hid (And.intro hokx (HN1.out hokx))
          clear hokx hyx hown hbw hue
          go_wp2_with fail
          go_ret2
          rw [HZ.out.1, HZ.out.2]
          exact ⟨_, rfl, own_none _ _, HB.out⟩
end Go.Proofs.Ytjmaapbodacggaa
