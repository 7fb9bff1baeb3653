/- The program's CobsBytes. -/
import Derived.Test.YtjmaapbodacggaaCos
import Derived.Laws.Cover3
namespace Go.Proofs.Ytjmaapbodacggaa
open Go Go.RowKit
set_option linter.unusedVariables false

/-- A slice that reads as numbers, in a block below hi. -/
def RdH (hi : Nat) (w : World) (v : Value) (l : List Int) : Prop :=
  ∃ (A : Option Addr) (n c : Nat), v = .slice A n c ∧ l.length = n ∧ n ≤ c ∧ c ≤ maxLen ∧
    (0 < n → ∃ b o, A = some ⟨b, o, none⟩ ∧ b < hi ∧ b < w.heap.size ∧ ∀ i (h : i < l.length), w.cell? ⟨b, o + i, none⟩ = some (.int .i64 l[i]))
theorem RdH.rd {hi : Nat} {w : World} {v : Value} {l : List Int} (h : RdH hi w v l) : Rd w v l := by
  obtain ⟨A, n, c, e, h1, h2, h3, h4⟩ := h
  exact ⟨A, n, c, e, h1, h2, h3, fun h0 => by obtain ⟨b, o, e1, -, e3, e4⟩ := h4 h0; exact ⟨b, o, e1, e3, e4⟩⟩
theorem RdH.below {hi : Nat} {w w' : World} {v : Value} {l : List Int} (h : RdH hi w v l) (hb : Below hi w w') : RdH hi w' v l := by
  obtain ⟨A, n, c, e, h1, h2, h3, h4⟩ := h
  exact ⟨A, n, c, e, h1, h2, h3, fun h0 => by
    obtain ⟨b, o, e1, e2, e3, e4⟩ := h4 h0
    exact ⟨b, o, e1, e2, Nat.lt_of_lt_of_le e3 hb.size, fun i hi' => (hb.cell (p := ⟨b, o + i, none⟩) e2).trans (e4 i hi')⟩⟩
theorem RdH.of_rd {w : World} {v : Value} {l : List Int} (h : Rd w v l) : RdH w.heap.size w v l := by
  obtain ⟨A, n, c, e, h1, h2, h3, h4⟩ := h
  exact ⟨A, n, c, e, h1, h2, h3, fun h0 => by obtain ⟨b, o, e1, e3, e4⟩ := h4 h0; exact ⟨b, o, e1, e3, e3, e4⟩⟩
theorem RdH.drop {hi : Nat} {w : World} {b o n c : Nat} {l : List Int} (h : RdH hi w (.slice (some ⟨b, o, none⟩) n c) l) (t : Nat) (ht : t ≤ n) : RdH hi w (.slice (some ⟨b, o + t, none⟩) (n - t) (c - t)) (l.drop t) := by
  obtain ⟨A', n', c', e, h1, h2, h3, h4⟩ := h
  injection e with e1 e2 e3
  subst e1; subst e2; subst e3
  refine ⟨_, _, _, rfl, by rw [List.length_drop]; omega, by omega, by omega, fun h0 => ?_⟩
  obtain ⟨b', o', e1, e2, e3, e4⟩ := h4 (by omega)
  injection e1 with e1; injection e1 with e5 e6 _
  subst e5; subst e6
  refine ⟨_, _, rfl, e2, e3, fun i hi' => ?_⟩
  rw [List.length_drop] at hi'
  rw [List.getElem_drop, Nat.add_assoc]
  exact e4 _ (by omega)
theorem RdH.empty {hi : Nat} {w : World} {A : Option Addr} {c : Nat} (hc : c ≤ maxLen) : RdH hi w (.slice A 0 c) [] := ⟨A, 0, c, rfl, rfl, Nat.zero_le _, hc, fun h => by omega⟩
theorem RdH.head {hi : Nat} {w : World} {v : Value} {l : List Int} (h : RdH hi w v l) (h0 : 0 < l.length) : ∃ b o c, v = .slice (some ⟨b, o, none⟩) l.length c ∧ l.length ≤ c ∧ c ≤ maxLen := by
  obtain ⟨A, n, c, e, h1, h2, h3, h4⟩ := h
  obtain ⟨b, o, rfl, -⟩ := h4 (by omega)
  exact ⟨b, o, c, by rw [h1]; exact e, by omega, h3⟩
theorem take_cells {w : World} {b o n c : Nat} {l : List Int} (h : Rd w (.slice (some ⟨b, o, none⟩) n c) l) (m : Nat) (hm : m ≤ n) : ∀ ad, some (⟨b, o, none⟩ : Addr) = some ad → ∀ j u, (intVals (l.take m))[j]? = some u → w.cell? (ad.add j) = some u := by
  intro ad had j u hj
  injection had with had
  subst had
  unfold intVals at hj
  rw [List.getElem?_map] at hj
  cases hx : (l.take m)[j]? with
  | none => rw [hx] at hj; cases hj
  | some y =>
    rw [hx] at hj
    injection hj with hj
    subst hj
    rw [List.getElem?_take] at hx
    split at hx
    · rename_i hjm
      obtain ⟨hi, rfl⟩ := List.getElem?_eq_some_iff.1 hx
      obtain ⟨A', n', c', e, h1, -, -, r⟩ := h
      injection e with e1 e2 e3
      subst e1; subst e2; subst e3
      obtain ⟨b', o', e1, -, hc⟩ := r (by omega)
      injection e1 with e1; injection e1 with e5 e6 _
      subst e5; subst e6
      rw [add_plain2]
      exact hc j hi
    · cases hx
theorem RdH.drop1 {hi : Nat} {w : World} {b o n c : Nat} {l : List Int} (h : RdH hi w (.slice (some ⟨b, o, none⟩) n c) l) (h1 : 1 ≤ n) : RdH hi w (.slice (if c = 1 then some ⟨b, o, none⟩ else some ⟨b, o + 1, none⟩) (n - 1) (c - 1)) (l.drop 1) := by
  by_cases hc : c = 1
  · have h' := h
    obtain ⟨A', n', c', e, e1, e2, e3, -⟩ := h
    injection e with e4 e5 e6
    subst e4; subst e5; subst e6
    obtain rfl : n = 1 := by omega
    rw [if_pos hc, List.drop_eq_nil_of_le (by omega)]
    exact RdH.empty (by omega)
  · rw [if_neg hc]; exact h.drop 1 h1
/-- The 0 that is put behind ends the numbers other than 0. -/
theorem idx_nzs (L : List Int) : idxI (L ++ [0]) 0 = (nzs L : Int) := by
  have h1 := nzs_le L
  refine idxI_at (k := nzs L) (by simp; omega) ?_ (fun j hj => ?_)
  · rcases Nat.lt_or_ge (nzs L) L.length with h | h
    · rw [List.getElem_append_left h]; exact nzs_at L h
    · rw [List.getElem_append_right h]; simp
  · rw [List.getElem_append_left (by omega)]; exact nzs_before L j hj
/-- What is left to cut. -/
def LeftR (l R : List Int) (f0 : Nat) : Prop := (f0 ≤ l.length ∧ R = l.drop f0 ++ [0]) ∨ (f0 = l.length + 1 ∧ R = [])
theorem left_step {l R : List Int} {f0 : Nat} (hR : R = l.drop f0 ++ [0]) (hf : f0 ≤ l.length) (m : Nat) (hm : m ≤ l.length - f0) : LeftR l ((R.drop m).drop 1) (f0 + m + 1) := by
  rw [List.drop_drop, hR]
  by_cases h : m = l.length - f0
  · exact .inr ⟨by omega, List.drop_eq_nil_of_le (by simp; omega)⟩
  · refine .inl ⟨by omega, ?_⟩
    rw [List.drop_append_of_le_length (by simp; omega), List.drop_drop, Nat.add_assoc]
theorem left_step2 {l R : List Int} {f0 : Nat} (hR : R = l.drop f0 ++ [0]) (hf : f0 + 254 ≤ l.length) : LeftR l (R.drop 254) (f0 + 254) := by
  refine .inl ⟨hf, ?_⟩
  rw [hR, List.drop_append_of_le_length (by simp; omega), List.drop_drop]
theorem left_end {l R : List Int} {f0 : Nat} (hR : R = l.drop f0 ++ [0]) (hf : f0 + 254 = l.length) : LeftR l ((R.drop 254).drop 1) (l.length + 1) :=
  .inr ⟨rfl, by rw [List.drop_drop, hR]; exact List.drop_eq_nil_of_le (by simp; omega)⟩
def sliceLen (v : Value) : Nat := match v with | .slice _ n _ => n | _ => 0

theorem eql_nil (A : Option Addr) (n c : Nat) (W : World) : (binOp .eql 22 (.slice A n c) (.slice none 0 0)).run Try.prog W = .ok (.bool A.isNone) W := by
  simp only [binOp]
  simp [run_equal_slice_nil (P := Try.prog) W 22 2 A n c Try.underlying22]
set_option maxRecDepth 100000 in
theorem clone_any (w : World) (vb : Value) (l : List Int) (hl : Rd w vb l) (hlen : l.length ≤ 300000) :
    Calls Try.prog 82 #[vb] w fun e w' => ∃ v, e = .returned v ∧ Own w' w.heap.size v l ∧ Below w.heap.size w w' := by
  obtain ⟨i0, hi, hz0, hz1, hz2⟩ := info_parts Try.infoInt
  have HV := Lib.hid hl
  obtain ⟨A, n, c, rfl, hn, hnc, -, hc⟩ := hl
  cases A with
  | none =>
    have hl0 : l = [] := by
      rcases Nat.eq_zero_or_pos n with h | h
      · exact List.length_eq_zero_iff.1 (by omega)
      · obtain ⟨b, o, e, -⟩ := hc h; cases e
    subst hl0
    clear hc
    have qe := fun W => eql_nil none n c W
    simp only [Option.isNone_none] at qe
    go_enter Try.func82, Try.ntmps82
    go_wp2_with fail
    go_ret
    exact ⟨_, rfl, own_none _ _, Below.refl _ _⟩
  | some ad =>
    have HC : Hid (∀ (W : World) (a' : Addr), Below w.heap.size w W → some ad = some a' → ∀ j u, (intVals l)[j]? = some u → W.cell? (a'.add j) = some u) := by
      show ∀ (W : World) (a' : Addr), Below w.heap.size w W → some ad = some a' → ∀ j u, (intVals l)[j]? = some u → W.cell? (a'.add j) = some u
      intro W a' hb e j u hj
      injection e with e
      subst e
      by_cases h0 : 0 < n
      · obtain ⟨b, o, e1, -, -⟩ := hc h0
        injection e1 with e1
        subst e1
        have := take_cells (HV.out.keep hb) n (Nat.le_refl _) _ rfl j u (by rw [List.take_of_length_le (by omega)]; exact hj)
        exact this
      · have hl0 : l = [] := List.length_eq_zero_iff.1 (by omega)
        subst hl0
        simp [intVals] at hj
    have HN := Lib.hid hn
    rw [hn] at hlen
    have hown0 : (w.alloc (.cells #[] 2)).ownsRow w.heap.size 2 1 (.slice (some ⟨w.heap.size, 0, none⟩) 0 0) 0 [] := World.ownsRow_made w #[] 0 (Nat.le_refl _) (by decide) rfl
    have hb0 : Below w.heap.size w (w.alloc (.cells #[] 2)) := (Below.refl _ _).alloc (Nat.le_refl _) _
    clear hc hn
    have qe := fun W => eql_nil (some ad) n c W
    simp only [Option.isNone_some] at qe
    go_enter Try.func82, Try.ntmps82
    go_wp2_with (at_builtin; refine wpList_append_win _ rfl _ _ 22 rfl w.heap.size 2 i0 (.int .i64 0) 1 8 Try.underlying22 hi hz0 hz1 hz2 rfl (by decide) _ _ _ rfl hown0 _ n _ (intVals l) rfl (by rw [intVals_length, HN.out, Nat.mul_one]) (by intro h; cases h) (fun a' e => HC.out _ a' hb0 e) (by intro u hu; unfold intVals at hu; obtain ⟨x, _, rfl⟩ := List.mem_map.1 hu; rfl) ?d3 ?d4 ?d5 ?_)
    case d3 => unfold maxLen; omega
    case d4 => omega
    case d5 => simp
    intro v2 w2 hown2 hgrow2
    have hb2 : Below w.heap.size w w2 := hb0.grown hgrow2 hb0.size (fun j hj => (hown0.lt j hj).1)
    have ho2 : Own w2 w.heap.size v2 l := own_of hown2 (by have := HN.out; omega) (by simp)
    clear hown2 hgrow2
    go_wp2_with fail
    go_ret
    exact ⟨_, rfl, ho2, hb2⟩

set_option maxRecDepth 100000 in
set_option maxHeartbeats 1000000 in
theorem cobsBytes_impl (w : World) (vb : Value) (l : List Int) (hl : Rd w vb l) :
    Calls Try.prog 35 #[vb] w fun e w' => ∃ v, e = .returned (.tuple #[v, .bool (cbOk l)]) ∧ Own w' w.heap.size v (cbV l) ∧ Below w.heap.size w w' := by
  have H1 := Lib.hid (areBytes_impl w vb l 300 (by decide) hl)
  cases h : cbOk l
  · rw [show byOk' 300 l = false from h] at H1
    rw [cbV_no h]
    clear h hl
    go_enter Try.func35, Try.ntmps35
    go_wp2_with fail
    refine H1.out.mono ?_; rintro e w' ⟨rfl, rfl⟩
    go_wp2_with fail
    go_ret2
    exact ⟨_, rfl, own_none _ _, Below.refl _ _⟩
  rw [show byOk' 300 l = true from h] at H1
  rw [cbV_yes h]
  have hlen := cbOk_len h
  have HLL := Lib.hid hlen
  obtain ⟨i0, hi, hz0, hz1, hz2⟩ := info_parts Try.infoInt
  have HCL := Lib.hid (clone_any w vb l hl (by omega))
  clear h hl
  go_enter Try.func35, Try.ntmps35
  go_wp2_with fail
  refine H1.out.mono ?_; rintro e w' ⟨rfl, rfl⟩
  go_wp2_with fail
  refine HCL.out.mono ?_; rintro e w1 ⟨v1, rfl, ho1, hb1⟩
  go_wp2_with (at_builtin; refine wpList_append_own _ rfl _ _ 22 rfl w.heap.size 2 i0 (.int .i64 0) 1 8 Try.underlying22 hi hz0 hz1 hz2 rfl (by decide) _ _ _ rfl (ho1.alloc _) ⟨w1.heap.size, 0, none⟩ 1 1 [.int .i64 0] rfl rfl (by exact c1_int1 _ _ _) (by intro u hu; simp at hu; subst hu; rfl) ?ac3 ?ac4 ?ac5 ?_)
  case ac3 => unfold maxLen; omega
  case ac4 => omega
  case ac5 => have := hb1.size; simp; omega
  intro v2 w2 hown2 hgrow2 _
  have hb2 := below_int hb1 hb1.size (Nat.le_refl _) ho1 hgrow2
  have ho2 : Own w2 w.heap.size v2 (l ++ [0]) := own_of hown2 (by simp) (by simp [intVals])
  have HR2 := Lib.hid (RdH.of_rd ho2.rd)
  have HB2 := Lib.hid hb2
  clear ho1 hb1 hown2 hgrow2 ho2 hb2
  go_wp2_with fail
  go_loopw [4, 5] (fun v r wr => ∃ (f0 : Nat) (M R : List Int), CoR l M f0 ∧ LeftR l R f0 ∧ RdH w2.heap.size wr r R ∧ Own wr w2.heap.size v M ∧ Below w2.heap.size w2 wr) (fun _ r _ => sliceLen r)
  case atStart => exact ⟨0, [], l ++ [0], CoR.start l, .inl ⟨Nat.zero_le _, rfl⟩, HR2.out, own_none _ _, Below.refl _ _⟩
  case round =>
    clear HR2
    obtain ⟨f0, M, R, hcr, hlr, hrd, hown, hbw⟩ := hrel
    have hML := hcr.len
    have HBB := Lib.hid (HB2.out.trans (hbw.mono HB2.out.size))
    rcases hlr with ⟨hf0, hR⟩ | ⟨hf0, rfl⟩
    rotate_left
    · have HE := Lib.hid (hcr.fin (by omega))
      obtain ⟨A, n, c, rfl, hn, -, -, -⟩ := hrd
      simp at hn
      subst hn
      rw [← HE.out] at hown
      have ho9 : Own wr w.heap.size u4 (cob l) := Own.base hown (by have := HB2.out.size; omega)
      clear hcr hML
      go_wp2_with fail
      go_ret2
      exact ⟨_, rfl, ho9, HBB.out⟩
    have hRl : R.length = l.length - f0 + 1 := by rw [hR]; simp
    obtain ⟨b, o, c, rfl, hc1, hc2⟩ := hrd.head (by omega)
    obtain ⟨N, hN⟩ : ∃ N, R.length = N := ⟨_, rfl⟩
    rw [hN] at hrd hc1 hRl ⊢
    have HI := Lib.hid (index_any wr _ R 0 hrd.rd)
    have hix : idxI R 0 = (nzs (l.drop f0) : Int) := by rw [hR]; exact idx_nzs _
    rw [hix] at HI
    obtain ⟨z, hz⟩ : ∃ z : Nat, nzs (l.drop f0) = z := ⟨_, rfl⟩
    obtain ⟨m, hm⟩ : ∃ m : Nat, lead (l.drop f0) = m := ⟨_, rfl⟩
    rw [hz] at HI
    have hmz : m = min z 254 := by rw [← hm, ← hz]; rfl
    have hml : m ≤ l.length - f0 := by have := lead_le (l.drop f0); rw [List.length_drop, hm] at this; exact this
    have hm254 : m ≤ 254 := by rw [← hm]; exact lead_most _
    obtain ⟨c1, c2, c3⟩ := hcr.step hf0 m hm
    have HC1 := Lib.hid c1
    have HC2 := Lib.hid c2
    have HC3 := Lib.hid c3
    have hmin : (if (254 : Int) < (z : Int) then (254 : Int) else (z : Int)) = (m : Int) := by split <;> omega
    have HRD := Lib.hid hrd
    have HO := Lib.hid hown
    have HBW := Lib.hid hbw
    have HRR := Lib.hid hR
    have hLL := HLL.out
    have hn0 : (0 : Int) < (N : Int) := by omega
    have HRL := Lib.hid hRl
    have HMZ := Lib.hid hmz
    clear hcr c1 c2 c3 hix hm hz hrd hown hbw hR hRl hmz
    go_wp2_with fail
    refine HI.out.mono ?_; rintro e w' ⟨rfl, rfl⟩
    have ho := HO.out
    go_wp2_with (at_builtin; refine wpList_append_own _ rfl _ _ 22 rfl w2.heap.size 2 i0 (.int .i64 0) 1 8 Try.underlying22 hi hz0 hz1 hz2 rfl (by decide) _ _ _ rfl (ho.alloc _) ⟨wr.heap.size, 0, none⟩ 1 1 [.int .i64 ((m : Int) + 1)] rfl rfl (by exact c1_int1 _ _ _) (by intro u hu; simp at hu; subst hu; rfl) ?bc3 ?bc4 ?bc5 ?_)
    case bc3 => unfold maxLen; first | omega | (simp; omega)
    case bc4 => first | omega | (simp; omega)
    case bc5 => have := HBW.out.size; simp; omega
    intro v3 w3 hown3 hgrow3 _
    have hk3 : Below w2.heap.size wr w3 := below_int (Below.refl _ _) HBW.out.size (Nat.le_refl _) ho hgrow3
    have ho3 : Own w3 w2.heap.size v3 (M ++ [((m : Int) + 1)]) := own_of hown3 (by simp) (by simp [intVals])
    have hrl := HRL.out
    have hrd3 := HRD.out.below hk3
    have htk := take_cells hrd3.rd m (by omega)
    have htl : (R.take m).length = m := by rw [List.length_take, hN]; omega
    have HK3 := Lib.hid hk3
    have s1 : (m : Int) ≤ (c : Int) := by omega
    have s2 : (m : Int) ≤ (N : Int) := by omega
    have hcm : ¬ c = m := by omega
    clear hown3 hgrow3 ho hrd3 hk3 hrl
    go_wp2_with (at_builtin; refine wpList_append_win _ rfl _ _ 22 rfl w2.heap.size 2 i0 (.int .i64 0) 1 8 Try.underlying22 hi hz0 hz1 hz2 rfl (by decide) _ _ _ rfl ho3 (some ⟨b, o, none⟩) m c (intVals (R.take m)) rfl (by rw [intVals_length, htl, Nat.mul_one]) (by intro h; cases h) (by exact htk) (by intro u hu; unfold intVals at hu; obtain ⟨x, _, rfl⟩ := List.mem_map.1 hu; rfl) ?ec3 ?ec4 ?ec5 ?_)
    case ec3 => unfold maxLen; first | omega | (simp; omega)
    case ec4 => first | omega | (simp; omega)
    case ec5 => have := HBW.out.size; have := HK3.out.size; omega
    intro v4 w4 hown4 hgrow4
    have hk4 : Below w2.heap.size wr w4 := HK3.out.grown hgrow4 (by have := HBW.out.size; have := HK3.out.size; omega) (fun j hj => (World.ownsRow.lt ho3 j hj).1)
    have hTK : R.take m = (l.drop f0).take m := by rw [HRR.out, List.take_append_of_le_length (by rw [List.length_drop]; exact hml)]
    have ho4 : Own w4 w2.heap.size v4 ((M ++ [((m : Int) + 1)]) ++ (l.drop f0).take m) := by
      refine own_of hown4 ?_ ?_
      · rw [← hTK]; simp [htl]; omega
      · rw [← hTK]; simp [intVals]
    have hrd4 := HRD.out.below hk4
    have hbw4 := HBW.out.trans hk4
    have HD1 := Lib.hid (hrd4.drop m (by omega))
    have HO4 := Lib.hid ho4
    have HB4 := Lib.hid hbw4
    clear hown4 hgrow4 ho3 htk htl hk4 hTK ho4 hrd4 hbw4
    have s3 : (1 : Int) ≤ ((N - m : Nat) : Int) := by have := HRL.out; omega
    have s4 : 1 ≤ N - m := by have := HRL.out; omega
    by_cases h5 : m < 254
    · have h5b : (m : Int) < 254 := by omega
      have HC := Lib.hid (HC3.out (by omega))
      have HLR := Lib.hid (left_step HRR.out hf0 m hml)
      have HRD4 := Lib.hid (HD1.out.drop1 s4)
      go_wp2_with fail
      all_goals go_roundw
      case rel => exact ⟨f0 + m + 1, _, _, HC.out, HLR.out, HRD4.out, HO4.out, HB4.out⟩
      case measure => simp [sliceLen]; omega
    · obtain rfl : m = 254 := by omega
      have h5b : ¬ ((254 : Nat) : Int) < 254 := by decide
      by_cases h6 : N - 254 = 1
      · have h6b : ((N - 254 : Nat) : Int) = 1 := by omega
        have hfe : f0 + 254 = l.length := by have := HRL.out; omega
        have HC : Hid (CoR l ((M ++ [(((254 : Nat) : Int) + 1)]) ++ (l.drop f0).take 254) (l.length + 1)) := .inr ⟨rfl, HC1.out rfl hfe⟩
        have HLR := Lib.hid (left_end HRR.out hfe)
        have HRD4 := Lib.hid (HD1.out.drop1 s4)
        go_wp2_with fail
        all_goals go_roundw
        case rel => exact ⟨l.length + 1, _, _, HC.out, HLR.out, by have := HRD4.out; rw [h6] at this; exact this, HO4.out, HB4.out⟩
        case measure => simp [sliceLen]; omega
      · have h6b : ¬ ((N - 254 : Nat) : Int) = 1 := by omega
        have hfe : f0 + 254 ≠ l.length := by have := HRL.out; omega
        have HC := Lib.hid (HC2.out rfl hfe)
        have HLR := Lib.hid (left_step2 HRR.out (by have := HRL.out; omega))
        go_wp2_with fail
        all_goals go_roundw
        case rel => exact ⟨f0 + 254, _, _, HC.out, HLR.out, HD1.out, HO4.out, HB4.out⟩
        case measure => simp [sliceLen]; omega
end Go.Proofs.Ytjmaapbodacggaa
