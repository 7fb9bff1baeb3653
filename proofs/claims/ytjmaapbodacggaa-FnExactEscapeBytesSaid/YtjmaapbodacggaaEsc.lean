/- Both EscapeBytes. -/
import Derived.Test.YtjmaapbodacggaaEsb
namespace Go.Proofs.Ytjmaapbodacggaa
open Go Go.RowKit
set_option linter.unusedVariables false

theorem c1_int1 (wr : World) (x : Value) (t : TypeId) : ∀ (j : Nat) (u : Value), [x][j]? = some u → (wr.alloc (.cells #[x] t)).cell? ((⟨wr.heap.size, 0, none⟩ : Addr).add j) = some u := by
  intro j u hj
  match j, hj with
  | 0, hj =>
    simp at hj; subst hj
    rw [show ((⟨wr.heap.size, 0, none⟩ : Addr).add 0) = ⟨wr.heap.size, 0, none⟩ from by simp [Addr.add]]
    rw [World.cell?_alloc_at _ _ _ _ rfl]; rfl
theorem c1_int2 (wr : World) (x y : Value) (t : TypeId) : ∀ (j : Nat) (u : Value), [x, y][j]? = some u → (wr.alloc (.cells #[x, y] t)).cell? ((⟨wr.heap.size, 0, none⟩ : Addr).add j) = some u := by
  intro j u hj
  match j, hj with
  | 0, hj =>
    simp at hj; subst hj
    rw [show ((⟨wr.heap.size, 0, none⟩ : Addr).add 0) = ⟨wr.heap.size, 0, none⟩ from by simp [Addr.add]]
    rw [World.cell?_alloc_at _ _ _ _ rfl]; rfl
  | 1, hj =>
    simp at hj; subst hj
    rw [show ((⟨wr.heap.size, 0, none⟩ : Addr).add 1) = ⟨wr.heap.size, 1, none⟩ from by simp [Addr.add]]
    rw [World.cell?_alloc_at _ _ _ _ rfl]; rfl
  | j + 2, hj => simp at hj
theorem below_int {B base n : Nat} {w wr w1 : World} {e : TypeId} {v : Value} {xs : List Value} {o : Obj} (hb : Below B w wr) (hB : base ≤ wr.heap.size) (hB2 : B ≤ base) (hown : wr.ownsRow base e 1 v n xs) (hg : (wr.alloc o).grownBy w1 v.ownBlock) : Below B w w1 :=
  (hb.alloc (by omega) o).grown hg (by simp; omega) (fun k hk => by have := (hown.lt k hk).1; omega)
theorem intVals_app (l m : List Int) : intVals (l ++ m) = intVals l ++ intVals m := by simp [intVals]
theorem own_of {w : World} {base : Nat} {v : Value} {l : List Int} {n : Nat} {xs : List Value} (h : w.ownsRow base 2 1 v n xs) (h1 : n = l.length) (h2 : xs = intVals l) : Own w base v l := by subst h1; subst h2; exact h

set_option maxRecDepth 100000 in
set_option maxHeartbeats 2000000 in
theorem l04Escape_any (w : World) (vs vb : Value) (sp l : List Int) (hs : Rd w vs sp) (hl : Rd w vb l) (hlen : l.length ≤ 300000) :
    Calls Try.prog 71 #[vs, vb] w fun e w' => ∃ v, e = .returned v ∧ Own w' w.heap.size v (esF sp l) ∧ Below w.heap.size w w' := by
  obtain ⟨i0, hi, hz0, hz1, hz2⟩ := info_parts Try.infoInt
  have HS := Lib.hid hs
  have HV := Lib.hid hl
  have HT := Lib.hid (esF_take sp l)
  have HAL := Lib.hid (fun k (hk : ¬ k < l.length) => List.take_of_length_le (l := l) (i := k) (by omega))
  obtain ⟨A, n, c, rfl, hn, -, -, -⟩ := hl
  have HN := Lib.hid hn
  rw [hn] at hlen
  clear hs hn
  go_enter Try.func71, Try.ntmps71
  go_wp2_with fail
  go_loopw [5, 6] (fun v i wr => ∃ k : Nat, k ≤ n ∧ i = .int .i64 k ∧ Own wr w.heap.size v (esF sp (l.take k)) ∧ Below w.heap.size w wr) (fun _ i _ => n - (intOf i).toNat)
  case atStart => exact ⟨0, Nat.zero_le _, rfl, World.ownsRow_made w #[] 0 (Nat.le_refl _) (by decide) rfl, (Below.refl _ _).alloc (Nat.le_refl _) _⟩
  case round =>
    obtain ⟨k, hk, rfl, hown, hbw⟩ := hrel
    by_cases hlt : k < n
    · have hr := HV.out.keep hbw
      obtain ⟨A', n', c', e', hn', -, -, r⟩ := hr
      injection e' with e1 e2 e3
      subst e1; subst e2; subst e3
      obtain ⟨b, o, rfl, hlt0, hc⟩ := r (by omega)
      have hkl : k < l.length := by have := HN.out; omega
      have hc0 := hc k hkl
      have hk0 : (0 : Int) ≤ (k : Int) := by omega
      have hk1 : (k : Int) < (n : Int) := by omega
      obtain ⟨y, hy⟩ : ∃ y, l[k] = y := ⟨_, rfl⟩
      rw [hy] at hc0
      have hT := HT.out k hkl
      rw [hy] at hT
      have hlen2 : (esF sp (l.take k)).length ≤ 800000 := by
        have h1 := (esF_len sp (l.take k)).2
        have h2 : (l.take k).length ≤ k := by rw [List.length_take]; omega
        omega
      clear r hn' hc
      have HH := l00Has_any _ _ sp y (HS.out.keep hbw)
      cases hcx : sp.contains y
      · rw [hcx] at HH
        have HHX := Lib.hid HH
        have HT2 : Hid (esF sp (l.take (k + 1)) = esF sp (l.take k) ++ [y]) := by show _ = _; rw [hT]; unfold esc; rw [if_neg (by rw [hcx]; decide)]
        clear hT hcx HH
        go_wp2_with fail
        refine HHX.out.mono ?_; rintro e w' ⟨rfl, rfl⟩
        go_wp2_with (at_builtin; refine wpList_append_own _ rfl _ _ 22 rfl w.heap.size 2 i0 (.int .i64 0) 1 8 Try.underlying22 hi hz0 hz1 hz2 rfl (by decide) _ _ _ rfl (hown.alloc _) ⟨wr.heap.size, 0, none⟩ 1 1 [.int .i64 y] rfl rfl ?c1 ?c2 ?c3 ?c4 ?c5 ?_)
        case c1 => exact c1_int1 _ _ _
        case c2 => intro u hu; simp at hu; subst hu; rfl
        case c3 => unfold maxLen; first | omega | (simp; omega)
        case c4 => first | omega | (simp; omega)
        case c5 => have := hbw.size; simp at this ⊢; omega
        intro v1 w1 hown1 hgrow1 _
        have hb1 := below_int hbw hbw.size (Nat.le_refl _) hown hgrow1
        have ho1 : Own w1 w.heap.size v1 (esF sp (l.take (k + 1))) := by
          refine own_of hown1 ?_ ?_
          · rw [HT2.out]; simp
          · rw [HT2.out]; simp [intVals]
        clear hown hgrow1 hown1 hc0 hy
        go_wp2_with fail
        go_roundw
        case rel => exact ⟨k + 1, by omega, by go_num, ho1, hb1⟩
        case measure => simp [intOf]; omega
      · rw [hcx] at HH
        have HHX := Lib.hid HH
        have HT2 : Hid (esF sp (l.take (k + 1)) = (esF sp (l.take k) ++ [125]) ++ [x32 y]) := by show _ = _; rw [hT]; unfold esc; rw [if_pos hcx]; simp
        clear hT hcx HH
        go_wp2_with fail
        refine HHX.out.mono ?_; rintro e w' ⟨rfl, rfl⟩
        go_wp2_with (at_builtin; refine wpList_append_own _ rfl _ _ 22 rfl w.heap.size 2 i0 (.int .i64 0) 1 8 Try.underlying22 hi hz0 hz1 hz2 rfl (by decide) _ _ _ rfl (hown.alloc _) ⟨wr.heap.size, 0, none⟩ 1 1 [.int .i64 125] rfl rfl ?c1 ?c2 ?c3 ?c4 ?c5 ?_)
        case c1 => exact c1_int1 _ _ _
        case c2 => intro u hu; simp at hu; subst hu; rfl
        case c3 => unfold maxLen; first | omega | (simp; omega)
        case c4 => first | omega | (simp; omega)
        case c5 => have := hbw.size; simp at this ⊢; omega
        intro v1 w1 hown1 hgrow1 _
        have hb1 := below_int hbw hbw.size (Nat.le_refl _) hown hgrow1
        have ho1 : Own w1 w.heap.size v1 (esF sp (l.take k) ++ [125]) := by
          refine own_of hown1 ?_ ?_
          · simp
          · simp [intVals]
        have hc1 : w1.cell? ⟨b, o + k, none⟩ = some (.int .i64 y) := by
          have hr := HV.out.keep hb1
          obtain ⟨A', n', c', e', hn', -, -, r⟩ := hr
          injection e' with e1 e2 e3
          obtain ⟨b', o', e4, -, hc⟩ := r (by omega)
          rw [e4] at e1
          injection e1 with e1
          injection e1 with e5 e6 _
          subst e5; subst e6
          have := hc k hkl
          rwa [hy] at this
        clear hown hgrow1 hown1 hc0
        go_wp2_with (at_builtin; refine wpList_append_own _ rfl _ _ 22 rfl w.heap.size 2 i0 (.int .i64 0) 1 8 Try.underlying22 hi hz0 hz1 hz2 rfl (by decide) _ _ _ rfl (ho1.alloc _) ⟨w1.heap.size, 0, none⟩ 1 1 [.int .i64 (x32 y)] rfl rfl ?c1 ?c2 ?c3 ?c4 ?c5 ?_)
        case c1 => exact c1_int1 _ _ _
        case c2 => intro u hu; simp at hu; subst hu; rfl
        case c3 => unfold maxLen; first | omega | (simp; omega)
        case c4 => first | omega | (simp; omega)
        case c5 => have := hb1.size; simp at this ⊢; omega
        intro v2 w2 hown2 hgrow2 _
        have hb2 := below_int hb1 hb1.size (Nat.le_refl _) ho1 hgrow2
        have ho2 : Own w2 w.heap.size v2 (esF sp (l.take (k + 1))) := by
          refine own_of hown2 ?_ ?_
          · rw [HT2.out]; simp
          · rw [HT2.out]; simp [intVals]
        clear ho1 hown2 hgrow2 hc1 hy
        go_wp2_with fail
        go_roundw
        case rel => exact ⟨k + 1, by omega, by go_num, ho2, hb2⟩
        case measure => simp [intOf]; omega
    · have HE : Hid (l.take k = l) := HAL.out k (by have := HN.out; omega)
      rw [HE.out] at hown
      go_wp2_with fail
      go_ret
      exact ⟨_, rfl, hown, hbw⟩

def ebOk (sp l : List Int) : Bool := spOk sp && byOk' 300 l
def ebV (sp l : List Int) : List Int := if ebOk sp l then esF sp l else []
theorem ebV_no {sp l : List Int} (h : ebOk sp l = false) : ebV sp l = [] := by unfold ebV; rw [h]; rfl
theorem ebV_yes {sp l : List Int} (h : ebOk sp l = true) : ebV sp l = esF sp l := by unfold ebV; rw [h]; rfl
theorem ebV_len (sp l : List Int) : (ebV sp l).length ≤ 600 := by
  cases h : ebOk sp l
  · rw [ebV_no h]; simp
  · rw [ebV_yes h]
    unfold ebOk byOk' at h
    obtain ⟨_, h2⟩ := Bool.and_eq_true_iff.1 h
    obtain ⟨h3, _⟩ := Bool.and_eq_true_iff.1 h2
    have h4 := of_decide_eq_true h3
    have := (esF_len sp l).2
    omega
theorem own_none (w : World) (base : Nat) : Own w base (.slice none 0 0) [] := World.ownsRow_nil _ _ _ _

set_option maxRecDepth 100000 in
theorem escapeBytes_spec (w : World) (vs vb : Value) (sp l : List Int) (hs : Rd w vs sp) (hl : Rd w vb l) (bs : ∀ n ∈ sp, -9223372036854775808 ≤ n ∧ n ≤ 9223372036854775807) :
    Calls Try.prog 28 #[vs, vb] w fun e w' => ∃ v, e = .returned (.tuple #[v, .bool (ebOk sp l)]) ∧ Own w' w.heap.size v (ebV sp l) ∧ Below w.heap.size w w' := by
  have H1 := Lib.hid (l04Special_spec w vs sp bs hs)
  have H2 := Lib.hid (fun q => l04Bytes_spec (w.drewN q) vb l 300 (by decide) (hl.drewN q))
  have H3 := Lib.hid (fun q h => l04Escape_any (w.drewN q) vs vb sp l (hs.drewN q) (hl.drewN q) h)
  clear hs hl bs
  cases h1 : spOk sp
  · have e : ebOk sp l = false := by unfold ebOk; rw [h1]; rfl
    rw [ebV_no e, e]
    rw [h1] at H1
    clear h1 e
    go_enter Try.func28, Try.ntmps28
    go_wp2_with fail
    refine H1.out.mono ?_; rintro e w' ⟨rfl, q, rfl⟩
    go_wp2_with fail
    go_ret2
    exact ⟨_, rfl, own_none _ _, below_drewN (Below.refl _ _) _⟩
  rw [h1] at H1
  cases h2 : byOk' 300 l
  · have e : ebOk sp l = false := by unfold ebOk; rw [h2]; simp
    rw [ebV_no e, e]
    rw [h2] at H2
    clear h1 h2 e
    go_enter Try.func28, Try.ntmps28
    go_wp2_with fail
    refine H1.out.mono ?_; rintro e w' ⟨rfl, q, rfl⟩
    go_wp2_with fail
    refine (H2.out _).mono ?_; rintro e w' ⟨rfl, rfl⟩
    go_wp2_with fail
    go_ret2
    exact ⟨_, rfl, own_none _ _, below_drewN (Below.refl _ _) _⟩
  · have e : ebOk sp l = true := by unfold ebOk; rw [h1, h2]; rfl
    have hl3 : l.length ≤ 300000 := by
      unfold byOk' at h2
      have := of_decide_eq_true (Bool.and_eq_true_iff.1 h2).1
      omega
    have H4 := Lib.hid (fun q => H3.out q hl3)
    rw [ebV_yes e, e]
    rw [h2] at H2
    clear h1 h2 e H3 hl3
    go_enter Try.func28, Try.ntmps28
    go_wp2_with fail
    refine H1.out.mono ?_; rintro e w' ⟨rfl, q, rfl⟩
    go_wp2_with fail
    refine (H2.out _).mono ?_; rintro e w' ⟨rfl, rfl⟩
    go_wp2_with fail
    refine (H4.out _).mono ?_; rintro e w1 ⟨v, rfl, ho, hb⟩
    have HO := Lib.hid ho
    have HB := Lib.hid ((below_drewN (Below.refl w.heap.size w) q).trans (hb.mono (by simp)))
    clear ho hb
    go_wp2_with fail
    go_ret2
    exact ⟨v, rfl, by simpa using HO.out, HB.out⟩

set_option maxRecDepth 100000 in
set_option maxHeartbeats 2000000 in
theorem escapeBytes_impl (w : World) (vs vb : Value) (sp l : List Int) (hs : Rd w vs sp) (hl : Rd w vb l) (bs : ∀ n ∈ sp, -9223372036854775808 ≤ n ∧ n ≤ 9223372036854775807) :
    Calls Try.prog 29 #[vs, vb] w fun e w' => ∃ v, e = .returned (.tuple #[v, .bool (ebOk sp l)]) ∧ Own w' w.heap.size v (ebV sp l) ∧ Below w.heap.size w w' := by
  have H1 := Lib.hid (areSpecial_impl w vs sp bs hs)
  have H2 := Lib.hid (fun q => areBytes_impl (w.drewN q) vb l 300 (by decide) (hl.drewN q))
  cases h1 : spOk sp
  · have e : ebOk sp l = false := by unfold ebOk; rw [h1]; rfl
    rw [ebV_no e, e]
    rw [h1] at H1
    clear h1 e hs hl bs
    go_enter Try.func29, Try.ntmps29
    go_wp2_with fail
    refine H1.out.mono ?_; rintro e w' ⟨rfl, q, rfl⟩
    go_wp2_with fail
    go_ret2
    exact ⟨_, rfl, own_none _ _, below_drewN (Below.refl _ _) _⟩
  rw [h1] at H1
  cases h2 : byOk' 300 l
  · have e : ebOk sp l = false := by unfold ebOk; rw [h2]; simp
    rw [ebV_no e, e]
    rw [h2] at H2
    clear h1 h2 e hs hl bs
    go_enter Try.func29, Try.ntmps29
    go_wp2_with fail
    refine H1.out.mono ?_; rintro e w' ⟨rfl, q, rfl⟩
    go_wp2_with fail
    refine (H2.out _).mono ?_; rintro e w' ⟨rfl, rfl⟩
    go_wp2_with fail
    go_ret2
    exact ⟨_, rfl, own_none _ _, below_drewN (Below.refl _ _) _⟩
  · have e : ebOk sp l = true := by unfold ebOk; rw [h1, h2]; rfl
    have hlen : l.length ≤ 300 := by
      unfold byOk' at h2
      exact of_decide_eq_true (Bool.and_eq_true_iff.1 h2).1
    rw [ebV_yes e, e]
    rw [h2] at H2
    obtain ⟨i0, hi, hz0, hz1, hz2⟩ := info_parts Try.infoInt
    have HS0 := Lib.hid hs
    have HV0 := Lib.hid hl
    have HT := Lib.hid (esF_take sp l)
    have HAL := Lib.hid (fun k (hk : ¬ k < l.length) => List.take_of_length_le (l := l) (i := k) (by omega))
    obtain ⟨A, n, c, rfl, hn, -, -, -⟩ := hl
    have HN := Lib.hid hn
    rw [hn] at hlen
    clear h1 h2 e hs bs hn
    go_enter Try.func29, Try.ntmps29
    go_wp2_with fail
    refine H1.out.mono ?_; rintro e w' ⟨rfl, q, rfl⟩
    go_wp2_with fail
    refine (H2.out _).mono ?_; rintro e w' ⟨rfl, rfl⟩
    have HB0 := Lib.hid (below_drewN (Below.refl w.heap.size w) q)
    go_wp2_with fail
    go_loopw [6, 19] (fun v i wr => ∃ k : Nat, k ≤ n ∧ i = .int .i64 k ∧ Own wr w.heap.size v (esF sp (l.take k)) ∧ Below w.heap.size w wr) (fun _ i _ => n - (intOf i).toNat)
    case atStart => exact ⟨0, Nat.zero_le _, rfl, own_none _ _, HB0.out⟩
    case round =>
      obtain ⟨k, hk, rfl, hown, hbw⟩ := hrel
      have HV := HV0
      by_cases hlt : k < n
      · have hr := HV.out.keep hbw
        obtain ⟨A', n', c', e', hn', -, -, r⟩ := hr
        injection e' with e1 e2 e3
        subst e1; subst e2; subst e3
        obtain ⟨b, o, rfl, hlt0, hc⟩ := r (by omega)
        have hkl : k < l.length := by have := HN.out; omega
        have hc0 := hc k hkl
        have hk0 : (0 : Int) ≤ (k : Int) := by omega
        have hk1 : (k : Int) < (n : Int) := by omega
        obtain ⟨y, hy⟩ : ∃ y, l[k] = y := ⟨_, rfl⟩
        rw [hy] at hc0
        have hT := HT.out k hkl
        rw [hy] at hT
        have hlen2 : (esF sp (l.take k)).length ≤ 800000 := by
          have h1 := (esF_len sp (l.take k)).2
          have h2 : (l.take k).length ≤ k := by rw [List.length_take]; omega
          omega
        clear r hn' hc
        have HH := contains_any _ _ sp y (HS0.out.keep hbw)
        cases hcx : sp.contains y
        · rw [hcx] at HH
          have HHX := Lib.hid HH
          have HT2 : Hid (esF sp (l.take (k + 1)) = esF sp (l.take k) ++ [y]) := by show _ = _; rw [hT]; unfold esc; rw [if_neg (by rw [hcx]; decide)]
          clear hT hcx HH
          go_wp2_with fail
          refine HHX.out.mono ?_; rintro e w' ⟨rfl, rfl⟩
          go_wp2_with (at_builtin; refine wpList_append_own _ rfl _ _ 22 rfl w.heap.size 2 i0 (.int .i64 0) 1 8 Try.underlying22 hi hz0 hz1 hz2 rfl (by decide) _ _ _ rfl (hown.alloc _) ⟨wr.heap.size, 0, none⟩ 1 1 [.int .i64 y] rfl rfl ?c1 ?c2 ?c3 ?c4 ?c5 ?_)
          case c1 => exact c1_int1 _ _ _
          case c2 => intro u hu; simp at hu; subst hu; rfl
          case c3 => unfold maxLen; first | omega | (simp; omega)
          case c4 => first | omega | (simp; omega)
          case c5 => have := hbw.size; simp at this ⊢; omega
          intro v1 w1 hown1 hgrow1 _
          have hb1 := below_int hbw hbw.size (Nat.le_refl _) hown hgrow1
          have ho1 : Own w1 w.heap.size v1 (esF sp (l.take (k + 1))) := by
            refine own_of hown1 ?_ ?_
            · rw [HT2.out]; simp
            · rw [HT2.out]; simp [intVals]
          clear hown hgrow1 hown1 hc0 hy
          go_wp2_with fail
          go_roundw
          case rel => exact ⟨k + 1, by omega, by go_num, ho1, hb1⟩
          case measure => simp [intOf]; omega
        · rw [hcx] at HH
          have HHX := Lib.hid HH
          have HT2 : Hid (esF sp (l.take (k + 1)) = esF sp (l.take k) ++ [125, x32 y]) := by show _ = _; rw [hT]; unfold esc; rw [if_pos hcx]
          clear hT hcx HH
          go_wp2_with fail
          refine HHX.out.mono ?_; rintro e w' ⟨rfl, rfl⟩
          go_wp2_with (at_builtin; refine wpList_append_own _ rfl _ _ 22 rfl w.heap.size 2 i0 (.int .i64 0) 1 8 Try.underlying22 hi hz0 hz1 hz2 rfl (by decide) _ _ _ rfl (hown.alloc _) ⟨wr.heap.size, 0, none⟩ 2 2 [.int .i64 125, .int .i64 (x32 y)] rfl rfl ?c1 ?c2 ?c3 ?c4 ?c5 ?_)
          case c1 => exact c1_int2 _ _ _ _
          case c2 => intro u hu; simp at hu; rcases hu with rfl | rfl <;> rfl
          case c3 => unfold maxLen; first | omega | (simp; omega)
          case c4 => first | omega | (simp; omega)
          case c5 => have := hbw.size; simp at this ⊢; omega
          intro v1 w1 hown1 hgrow1 _
          have hb1 := below_int hbw hbw.size (Nat.le_refl _) hown hgrow1
          have ho1 : Own w1 w.heap.size v1 (esF sp (l.take (k + 1))) := by
            refine own_of hown1 ?_ ?_
            · rw [HT2.out]; simp
            · rw [HT2.out]; simp [intVals]
          clear hown hgrow1 hown1 hc0 hy
          go_wp2_with fail
          go_roundw
          case rel => exact ⟨k + 1, by omega, by go_num, ho1, hb1⟩
          case measure => simp [intOf]; omega
      · have HE : Hid (l.take k = l) := HAL.out k (by have := HN.out; omega)
        rw [HE.out] at hown
        go_wp2_with fail
        go_ret2
        exact ⟨_, rfl, hown, hbw⟩
end Go.Proofs.Ytjmaapbodacggaa
