/- The walk of the law FnEscaped. -/
import Derived.Test.YtjmaapbodacggaaR8p
import Derived.Test.YtjmaapbodacggaaEcP
import Derived.Test.YtjmaapbodacggaaUei
import Derived.Test.YtjmaapbodacggaaUoi
namespace Go.Proofs.Ytjmaapbodacggaa
open Go Go.RowKit
set_option linter.unusedVariables false

theorem inc_of {l : List Int} (h : l.Pairwise (· < ·)) : inc l = true :=
  inc_upto fun k hk h0 => List.pairwise_iff_getElem.1 h (k - 1) k (by omega) hk (by omega)
theorem spD_ok {l : List Int} (h : SpD l 4) : spOk l = true := by
  obtain ⟨h1, h2, h3, h4⟩ := h
  have hb : ∀ z ∈ l, 0 ≤ z ∧ z ≤ 255 := fun z hz => by have := h3 z hz; simp at this; omega
  have hn : noX l = true := by
    unfold noX
    rw [List.all_eq_true]
    intro z hz
    have hz' := h3 z hz
    have : x32 z ∉ l := fun hm => by
      have hm' := h3 _ hm
      have : ∀ z ∈ [(125 : Int), 0, 17, 19, 126, 255, 10], x32 z ∉ [(125 : Int), 0, 17, 19, 126, 255, 10] := by decide
      exact this z hz' hm'
    simpa using this
  unfold spOk
  rw [decide_eq_true (by omega), inc_of h4, byR_of hb, hn]
  simpa using h2
theorem cob_nz (l : List Int) : (cob l).contains 0 = false := by
  cases h : (cob l).contains 0
  · rfl
  · exact absurd rfl (coF_nz (l.length + 1) l 0 (by unfold cob at h; simpa using h))
theorem rdv_keep {w w' : World} {v : Value} {l : List Value} (h : RdV (· < w.heap.size) w v l) (hb : Below w.heap.size w w') : RdV (· < w'.heap.size) w' v l := by
  obtain ⟨A, n, c, e, hn, h1, h2, h3⟩ := h.keep hb
  refine ⟨A, n, c, e, hn, h1, h2, fun h0 => ?_⟩
  obtain ⟨b, o, ea, hK, hlt, hc⟩ := h3 h0
  exact ⟨b, o, ea, hlt, hlt, hc⟩
/-- What the calls of the law answer. -/
theorem esc_facts {sp l : List Int} (hs : SpD sp 4) (hl : ByD l 0) : ebOk sp l = true ∧ ebV sp l = esF sp l ∧ ubOk sp (esF sp l) = true ∧ ubV sp (esF sp l) = l ∧ cbOk l = true ∧ cbV l = cob l ∧ uoOk (cob l) = true ∧ uoV (cob l) = l := by
  have hsp := spD_ok hs
  have hll : l.length ≤ 300 := by have := hl.1; omega
  obtain ⟨⟨a1, a2, a3, a4⟩, b1, b2, b3⟩ := escaped_all hsp hl.2 hll
  have c1 : ebOk sp l = true := by unfold ebOk; rw [hsp, a1]; rfl
  have c2 : ubOk sp (esF sp l) = true := by unfold ubOk; rw [hsp, a2, a3, a4, decide_eq_true hll]; rfl
  have c3 : cbOk l = true := a1
  have c4 : uoOk (cob l) = true := by unfold uoOk; rw [b1, b2]; rfl
  refine ⟨c1, ebV_yes c1, c2, by rw [ubV_yes c2, a3], c3, cbV_yes c3, c4, ?_⟩
  unfold uoV; rw [c4, b3]; rfl
theorem i64_small {l : List Int} (h : ∀ z ∈ l, 0 ≤ z ∧ z ≤ 255) : ∀ n ∈ l, -9223372036854775808 ≤ n ∧ n ≤ 9223372036854775807 := fun n hn => by have := h n hn; omega

theorem rd_sh {w : World} {v : Value} {l : List Int} (h : Rd w v l) : ∃ A c, v = .slice A l.length c := by
  obtain ⟨A, n, c, e, hn, -⟩ := h
  exact ⟨A, c, by rw [hn]; exact e⟩
theorem c_esc {sp l : List Int} (hs : SpD sp 4) (hl : ByD l 0) (W : World) (vs vb : Value) (h1 : Rd W vs sp) (h2 : Rd W vb l) :
    Calls Try.prog 29 #[vs, vb] W fun e w' => ∃ v, e = .returned (.tuple #[v, .bool true]) ∧ Rd w' v (esF sp l) ∧ Below W.heap.size W w' := by
  obtain ⟨a1, a2, -⟩ := esc_facts hs hl
  have h := escapeBytes_impl W vs vb sp l h1 h2 (i64_small (fun z hz => by have := hs.2.2.1 z hz; simp at this; omega))
  rw [a1, a2] at h
  exact h.mono fun e w' ⟨v, he, ho, hb⟩ => ⟨v, he, ho.rd, hb⟩
theorem c_une {sp l : List Int} (hs : SpD sp 4) (hl : ByD l 0) (W : World) (vs vb : Value) (h1 : Rd W vs sp) (h2 : Rd W vb (esF sp l)) :
    Calls Try.prog 31 #[vs, vb] W fun e w' => ∃ v, e = .returned (.tuple #[v, .bool true]) ∧ Rd w' v l ∧ Below W.heap.size W w' := by
  obtain ⟨-, -, a1, a2, -⟩ := esc_facts hs hl
  have h := unescapeBytes_impl W vs vb sp _ h1 h2 (i64_small (fun z hz => by have := hs.2.2.1 z hz; simp at this; omega))
  rw [a1, a2] at h
  exact h.mono fun e w' ⟨v, he, ho, hb⟩ => ⟨v, he, ho.rd, hb⟩
theorem c_cob {sp l : List Int} (hs : SpD sp 4) (hl : ByD l 0) (W : World) (vb : Value) (h2 : Rd W vb l) :
    Calls Try.prog 35 #[vb] W fun e w' => ∃ v, e = .returned (.tuple #[v, .bool true]) ∧ Rd w' v (cob l) ∧ Below W.heap.size W w' := by
  obtain ⟨-, -, -, -, a1, a2, -⟩ := esc_facts hs hl
  have h := cobsBytes_impl W vb l h2
  rw [a1, a2] at h
  exact h.mono fun e w' ⟨v, he, ho, hb⟩ => ⟨v, he, ho.rd, hb⟩
theorem c_unc {sp l : List Int} (hs : SpD sp 4) (hl : ByD l 0) (W : World) (vb : Value) (h2 : Rd W vb (cob l)) :
    Calls Try.prog 36 #[vb] W fun e w' => ∃ v, e = .returned (.tuple #[v, .bool true]) ∧ Rd w' v l ∧ Below W.heap.size W w' := by
  obtain ⟨-, -, -, -, -, -, a1, a2⟩ := esc_facts hs hl
  have h := uncobsBytes_impl W vb _ h2
  rw [a1, a2] at h
  exact h.mono fun e w' ⟨v, he, ho, hb⟩ => ⟨v, he, ho.rd, hb⟩
theorem c_same (W : World) (v1 v2 : Value) (l : List Int) (h1 : Rd W v1 l) (h2 : Rd W v2 l) :
    Calls Try.prog 37 #[v1, v2] W fun e w' => e = .returned (.bool true) ∧ ∃ q, w' = W.drewN q := by
  have h := r8Nums_any W v1 v2 l l h1 h2
  rwa [decide_eq_true rfl] at h

set_option maxHeartbeats 4000000 in
set_option maxRecDepth 100000 in
theorem law_FnEscaped (v0 : Value) (l0 : List Value) (k0 : ∀ x ∈ l0, ∃ y : Int, x = .int .u8 y ∧ 0 ≤ y ∧ y ≤ 255) (v1 : Value) (l1 : List Value) (k1 : ∀ x ∈ l1, ∃ y : Int, x = .int .u8 y ∧ 0 ≤ y ∧ y ≤ 255) (w : World) (r0 : RdV (· < w.heap.size) w v0 l0) (r1 : RdV (· < w.heap.size) w v1 l1) :
    Calls Try.prog 8 #[v0, v1] w fun e w' => e = .returned (.bool true) ∧ Below w.heap.size w w' := by
  have HR0 := Lib.hid r0
  have HR1 := Lib.hid r1
  have HK0 := Lib.hid k0
  have HK1 := Lib.hid k1
  obtain ⟨A0, n0, c0, rfl, -⟩ := r0
  obtain ⟨A1, n1, c1, rfl, -⟩ := r1
  have HL := Lib.hid (fun W => r8Long_any W A0 A1 n0 c0 n1 c1)
  clear k0 k1
  generalize (decide (48 < n0) || decide (48 < n1)) = z at HL
  cases z
  rotate_left
  · go_enter Try.func8, Try.ntmps8
    go_wp2_with fail
    refine (HL.out _).mono ?_; rintro e w1 ⟨rfl, q, rfl⟩
    go_wp2_with fail
    go_ret
    exact ⟨rfl, below_drewN (Below.refl _ _) q⟩
  · go_enter Try.func8, Try.ntmps8
    go_wp2_with fail
    refine (HL.out _).mono ?_; rintro e w1 ⟨rfl, q, rfl⟩
    have B1 : Hid (Below w.heap.size w (w.drewN q)) := below_drewN (Below.refl _ _) q
    go_wp2_with fail
    refine (r8Special_any _ _ _ (rdv_keep HR0.out B1.out) HK0.out).mono ?_; rintro e w2 ⟨vs, rfl, sp, hsp, ho2, hb2⟩
    have SP := Lib.hid hsp
    have OS2 := Lib.hid ho2.rd
    have B2 := Lib.hid (B1.out.trans (hb2.mono B1.out.size))
    clear ho2 hb2 B1
    go_wp2_with fail
    refine (r8Bytes_any _ _ _ (rdv_keep HR1.out B2.out) HK1.out).mono ?_; rintro e w3 ⟨vb, rfl, l, hby, ho3, hb3⟩
    have BY := Lib.hid hby
    have OB3 := Lib.hid ho3.rd
    have OS3 := Lib.hid (OS2.out.keep hb3)
    have B3 := Lib.hid (B2.out.trans (hb3.mono B2.out.size))
    have CE := Lib.hid (c_esc hsp hby)
    have CU := Lib.hid (c_une hsp hby)
    have CC := Lib.hid (c_cob hsp hby)
    have CN := Lib.hid (c_unc hsp hby)
    have FC : Hid (∀ x ∈ esF sp l, x ≠ 125 → sp.contains x = false) := esF_clean (Bool.and_eq_true_iff.1 (Bool.and_eq_true_iff.1 (spD_ok hsp)).2).2
    have FZ := Lib.hid (cob_nz l)
    have hlen : l.length ≤ 300 := by have := hby.1; omega
    obtain ⟨z1, z2⟩ := cob_size l
    have hel := esF_len sp l
    clear ho3 hb3 B2 OS2 hsp hby SP BY
    generalize esF sp l = E at *
    generalize cob l = C at *
    have y1 : ¬ (C.length : Int) < (l.length : Int) + 1 := by omega
    have y2 : ¬ (l.length : Int) + 1 + (l.length : Int) / 254 < (C.length : Int) := by omega
    have y3 : E.length ≤ 600 := by omega
    have HEL := Lib.hid hel
    clear z1 z2 hel
    go_wp2_with fail
    refine (CE.out _ _ _ OS3.out OB3.out).mono ?_; rintro e w4 ⟨ve, rfl, hr4, hb4⟩
    have OE4 := Lib.hid hr4
    have OS4 := Lib.hid (OS3.out.keep hb4)
    have OB4 := Lib.hid (OB3.out.keep hb4)
    have B4 := Lib.hid (B3.out.trans (hb4.mono B3.out.size))
    clear hr4 hb4 OS3 OB3 B3
    go_wp2_with fail
    refine (CU.out _ _ _ OS4.out OE4.out).mono ?_; rintro e w5 ⟨vk, rfl, hr5, hb5⟩
    have OK5 := Lib.hid hr5
    have OE5 := Lib.hid (OE4.out.keep hb5)
    have OS5 := Lib.hid (OS4.out.keep hb5)
    have OB5 := Lib.hid (OB4.out.keep hb5)
    have B5 := Lib.hid (B4.out.trans (hb5.mono B4.out.size))
    clear hr5 hb5 OS4 OB4 OE4 B4
    go_wp2_with fail
    refine (CC.out _ _ OB5.out).mono ?_; rintro e w6 ⟨vp, rfl, hr6, hb6⟩
    have OP6 := Lib.hid hr6
    have OK6 := Lib.hid (OK5.out.keep hb6)
    have OE6 := Lib.hid (OE5.out.keep hb6)
    have OS6 := Lib.hid (OS5.out.keep hb6)
    have OB6 := Lib.hid (OB5.out.keep hb6)
    have B6 := Lib.hid (B5.out.trans (hb6.mono B5.out.size))
    clear hr6 hb6 OS5 OB5 OE5 OK5 B5
    go_wp2_with fail
    refine (CN.out _ _ OP6.out).mono ?_; rintro e w7 ⟨va, rfl, hr7, hb7⟩
    have OA7 := Lib.hid hr7
    have OP7 := Lib.hid (OP6.out.keep hb7)
    have OK7 := Lib.hid (OK6.out.keep hb7)
    have OE7 := Lib.hid (OE6.out.keep hb7)
    have OS7 := Lib.hid (OS6.out.keep hb7)
    have OB7 := Lib.hid (OB6.out.keep hb7)
    have B7 := Lib.hid (B6.out.trans (hb7.mono B6.out.size))
    clear hr7 hb7 OS6 OB6 OE6 OK6 OP6 B6
    go_wp2_with fail
    refine (c_same _ _ _ l OK7.out OB7.out).mono ?_; rintro e w8 ⟨rfl, q8, rfl⟩
    go_wp2_with fail
    refine (c_same _ _ _ l (OA7.out.drewN q8) (OB7.out.drewN q8)).mono ?_; rintro e w9 ⟨rfl, q9, rfl⟩
    obtain ⟨Ab, cb, rfl⟩ := rd_sh OB7.out
    obtain ⟨Ap, cp, rfl⟩ := rd_sh OP7.out
    have OEQ : Hid (∀ q, Rd (w7.drewN q) ve E) := by
      show ∀ q, _
      exact fun q => OE7.out.drewN q
    have OSQ : Hid (∀ q, Rd (w7.drewN q) vs sp) := by
      show ∀ q, _
      exact fun q => OS7.out.drewN q
    have OPQ : Hid (∀ q, Rd (w7.drewN q) (.slice Ap C.length cp) C) := by
      show ∀ q, _
      exact fun q => OP7.out.drewN q
    obtain ⟨Ae, ce, rfl⟩ := rd_sh OE7.out
    obtain ⟨m, hm⟩ : ∃ m, E.length = m := ⟨_, rfl⟩
    have HM := Lib.hid hm
    rw [hm] at y3 OEQ OE7
    clear OB7 OK7 OA7
    simp only [World.drewN_drewN]
    rw [hm]
    clear hm
    go_wp2_with fail
    go_loopw [15] (fun i wr => ∃ k q : Nat, k ≤ m ∧ i = .int .i64 k ∧ wr = w7.drewN q) (fun i _ => m - (intOf i).toNat)
    case atStart => exact ⟨0, _, Nat.zero_le _, rfl, rfl⟩
    case round =>
      obtain ⟨k, q, hk, rfl, rfl⟩ := hrel
      by_cases hlt : k < m
      · have hk0 : (0 : Int) ≤ (k : Int) := by omega
        have hk1 : (k : Int) < (m : Int) := by omega
        have hkE : k < E.length := by have := HM.out; omega
        have hr := OEQ.out q
        obtain ⟨A', n', c', e', hn', -, -, r⟩ := hr
        injection e' with e1 e2 e3
        subst e1; subst e2; subst e3
        obtain ⟨b, o, rfl, -, hc⟩ := r (by omega)
        have hc0 := hc k hkE
        have HQ := Lib.hid (FC.out E[k] (List.getElem_mem hkE))
        generalize E[k] = y at *
        have HH := Lib.hid (r8Has_any _ _ sp y (OSQ.out q))
        clear r hc hn'
        by_cases hy : y = 125
        · subst hy
          have hy' : ((125 : Int) != 125) = false := by decide
          clear HQ HH
          go_wp2_with fail
          go_roundw
          case rel => exact ⟨k + 1, _, by omega, by go_num, rfl⟩
          case measure => simp [intOf]; omega
        · have hy' : (y != 125) = true := bne_iff_ne.2 hy
          have HHX : Hid (Calls Try.prog 38 #[vs, .int .i64 y] (w7.drewN q) fun e w' => e = .returned (.bool false) ∧ w7.drewN q = w') := by
            have h := HH.out
            rw [HQ.out hy] at h
            exact h
          clear HQ HH hy
          go_wp2_with fail
          refine HHX.out.mono ?_; rintro e w' ⟨rfl, rfl⟩
          go_wp2_with fail
          go_roundw
          case rel => exact ⟨k + 1, _, by omega, by go_num, rfl⟩
          case measure => simp [intOf]; omega
      · have HHX : Hid (Calls Try.prog 38 #[.slice Ap C.length cp, .int .i64 0] (w7.drewN q) fun e w' => e = .returned (.bool false) ∧ w7.drewN q = w') := by
          have h := r8Has_any _ _ C 0 (OPQ.out q)
          rw [FZ.out] at h
          exact h
        go_wp2_with fail
        refine HHX.out.mono ?_; rintro e w' ⟨rfl, rfl⟩
        go_wp2_with fail
        go_ret
        exact ⟨rfl, below_drewN B7.out q⟩
end Go.Proofs.Ytjmaapbodacggaa
