/- The model's l08Missed: how many choices of powers come to a rest. -/
import Derived.Test.YtkgfmpkpeipddabDoorMsP
import Derived.Test.YtkgfmpkpeipddabDoorCkm
import Derived.RangeFuncBox
namespace Go.Proofs.YtkgfmpkpeipddabDoor
open Go Go.RowKit
set_option linter.unusedVariables false

/-- A row of numbers that is read. -/
def RdP (W : World) (v : Value) (B : List Nat) : Prop :=
  ∃ (A : Option Addr) (n c : Nat), v = .slice A n c ∧ B.length = n ∧ n ≤ maxLen ∧
    (0 < n → ∃ g o, A = some ⟨g, o, none⟩ ∧ g < W.heap.size ∧ ∀ (i x : Nat), B[i]? = some x → W.cell? ⟨g, o + i, none⟩ = some (.int .i64 (x : Int)))
theorem RdP.keep {W W' : World} {v : Value} {B : List Nat} (h : RdP W v B) (hb : Below W.heap.size W W') : RdP W' v B := by
  obtain ⟨A, n, c, e, h1, h2, h3⟩ := h
  refine ⟨A, n, c, e, h1, h2, fun h0 => ?_⟩
  obtain ⟨g, o, ea, hl, hc⟩ := h3 h0
  exact ⟨g, o, ea, Nat.lt_of_lt_of_le hl hb.size, fun i x hx => (hb.cell (p := ⟨g, o + i, none⟩) hl).trans (hc i x hx)⟩
theorem chs_drop (Ps : List Nat) (j c r : Nat) (h : j < Ps.length) : chs (Ps.drop j) (c + 1) r = chs (Ps.drop (j + 1)) (c + 1) r + chs (Ps.drop (j + 1)) c (r ^^^ Ps[j]) := by
  rw [List.drop_eq_getElem_cons h]; rfl
theorem chs_drop_le (Ps : List Nat) (j c r : Nat) (h : Ps.length ≤ 32) : chs (Ps.drop j) c r ≤ 4294967296 := by
  have := chs_le (Ps.drop j) c r
  have h2 := Nat.pow_le_pow_right (show 0 < 2 by omega) (show (Ps.drop j).length ≤ 32 by rw [List.length_drop]; omega)
  omega
set_option maxRecDepth 100000 in
set_option maxHeartbeats 1000000 in
theorem missed_any (Ps : List Nat) (hP : ∀ x ∈ Ps, x < 65536) (hl : Ps.length ≤ 32) : ∀ (c i r : Nat) (v : Value) (W : World), RdP W v Ps → i ≤ Ps.length → c ≤ 4 → r < 65536 →
    Calls Tryd.prog 59 #[v, .int .i64 (i : Int), .int .i64 (c : Int), .int .i64 (r : Int)] W fun e W' => e = .returned (.int .i64 ((chs (Ps.drop i) c r : Nat) : Int)) ∧ Below W.heap.size W W' := by
  intro c
  induction c with
  | zero =>
    intro i r v W hv hi hc hr
    rw [chs_zero]
    obtain ⟨A, n, cc, rfl, -, -, -⟩ := hv
    rw [show ((0 : Nat) : Int) = 0 from rfl]
    by_cases h : r = 0
    · subst h
      rw [if_pos rfl]
      rw [show ((0 : Nat) : Int) = 0 from rfl]
      clear hP hl hi hc hr
      go_enter Tryd.func59, Tryd.ntmps59
      go_wp2_with fail
      go_ret
      exact ⟨rfl, Below.refl _ _⟩
    · rw [if_neg h]
      have hn : ((r : Int) == 0) = false := by simpa using (show ¬ (r : Int) = 0 by omega)
      clear hP hl hi hc hr h
      go_enter Tryd.func59, Tryd.ntmps59
      go_wp2_with fail
      go_ret
      exact ⟨rfl, Below.refl _ _⟩
  | succ c ih =>
    intro i r v W hv hi hc hr
    have IH := Lib.hid ih
    have HV := Lib.hid hv
    have HP := Lib.hid hP
    have HL := Lib.hid hl
    obtain ⟨A, n, cc, rfl, hn, -, -⟩ := hv
    obtain ⟨C, hC⟩ : ∃ C, C = c + 1 := ⟨_, rfl⟩
    obtain ⟨T, hT⟩ : ∃ T, T = chs (Ps.drop i) (c + 1) r := ⟨_, rfl⟩
    rw [← hT, ← hC]
    have hTb : T ≤ 4294967296 := by rw [hT]; exact chs_drop_le _ _ _ _ hl
    have hC0 : ((C : Int) == 0) = false := by simpa using (show ¬ (C : Int) = 0 by omega)
    have hC1 : IntKind.i64.wrap ((C : Int) - 1) = (c : Int) := by rw [IntKind.wrap_i64]; omega
    have HT := Lib.hid hT
    have HN := Lib.hid hn
    have hn32 : n ≤ 32 := by omega
    have hin : i ≤ n := by omega
    clear ih hP hl hn hC hT hi
    go_enter Tryd.func59, Tryd.ntmps59
    go_wp2_with fail
    go_loopw [9, 10] (fun su ix wr => ∃ s j : Nat, su = .int .i64 (s : Int) ∧ ix = .int .i64 (j : Int) ∧ i ≤ j ∧ j ≤ n ∧ s + chs (Ps.drop j) (c + 1) r = T ∧ Below W.heap.size W wr) (fun _ ix _ => n - (intOf ix).toNat)
    case atStart => exact ⟨0, i, rfl, rfl, Nat.le_refl _, hin, by rw [HT.out]; omega, Below.refl _ _⟩
    case round =>
      obtain ⟨s, j, rfl, rfl, hij, hjn, hs, hb⟩ := hrel
      have HB := Lib.hid hb
      by_cases hlt : j < n
      · have hjP : j < Ps.length := by have := HN.out; omega
        have hx := HP.out Ps[j] (List.getElem_mem hjP)
        have hxx : r ^^^ Ps[j] < 65536 := Nat.xor_lt_two_pow (n := 16) hr hx
        have HC := Lib.hid (IH.out (j + 1) (r ^^^ Ps[j]) (.slice A n cc) wr (HV.out.keep hb) (by omega) (by omega) hxx)
        have hd := chs_drop Ps j c r hjP
        rw [hd] at hs
        obtain ⟨A', n', c', e', -, -, h3⟩ := HV.out.keep hb
        injection e' with e1 e2 e3
        subst e1; subst e2; subst e3
        obtain ⟨g, o, rfl, -, hc3⟩ := h3 (by omega)
        have hcell := hc3 j Ps[j] (List.getElem?_eq_getElem hjP)
        have ex : bits .xor .i64 (r : Int) ((Ps[j] : Nat) : Int) = ((r ^^^ Ps[j] : Nat) : Int) := i64_xor_nat _ _ (by omega) (by omega)
        have hj0 : (0 : Int) ≤ (j : Int) := by omega
        have hj1 : (j : Int) < (n : Int) := by omega
        have ej : IntKind.i64.wrap ((j : Int) + 1) = ((j + 1 : Nat) : Int) := by rw [IntKind.wrap_i64]; omega
        clear hd h3 hc3 hb hx hxx IH HP
        generalize r ^^^ Ps[j] = R at *
        generalize chs (Ps.drop (j + 1)) c R = U at *
        obtain ⟨V, hV⟩ : ∃ V, V = chs (Ps.drop (j + 1)) (c + 1) r := ⟨_, rfl⟩
        rw [← hV] at hs
        have HV2 := Lib.hid hV
        clear hV
        generalize Ps[j] = X at *
        have es : IntKind.i64.wrap ((s : Int) + (U : Int)) = ((s + U : Nat) : Int) := by rw [IntKind.wrap_i64]; omega
        rw [show ((j + 1 : Nat) : Int) = (j : Int) + 1 by omega] at HC
        go_wp2_with fail
        refine HC.out.mono ?_; rintro e w2 ⟨rfl, hb2⟩
        have HB2 := Lib.hid (HB.out.trans (hb2.mono HB.out.size))
        clear hb2 HC hcell
        go_wp2_with fail
        go_roundw
        case rel => exact ⟨s + U, j + 1, by go_num, by go_num, by omega, by omega, by have := HV2.out; omega, HB2.out⟩
        case measure => simp [intOf]; omega
      · obtain rfl : j = n := by omega
        have h0 : chs (Ps.drop j) (c + 1) r = 0 := by
          rw [List.drop_eq_nil_of_le (by rw [HN.out]; exact Nat.le_refl _)]; rfl
        rw [h0, Nat.add_zero] at hs
        subst hs
        clear hb h0 hTb
        go_wp2_with fail
        go_ret
        exact ⟨rfl, HB.out⟩

theorem infoI8 : (Tryd.prog.info? 2).map (fun i => (i.zero, i.size, i.bytes)) = some (some (.int .i64 0), 1, 8) := by kernel_rfl
def pwV (l : List Nat) : List Value := l.map (fun (x : Nat) => Value.int .i64 (x : Int))
theorem pwV_len (l : List Nat) : (pwV l).length = l.length := by simp [pwV]
theorem c1_i8 (wr : World) (x : Value) (t : TypeId) : ∀ (j : Nat) (u : Value), [x][j]? = some u → (wr.alloc (.cells #[x] t)).cell? ((⟨wr.heap.size, 0, none⟩ : Addr).add j) = some u := by
  intro j u hj
  match j, hj with
  | 0, hj =>
    simp at hj; subst hj
    rw [show ((⟨wr.heap.size, 0, none⟩ : Addr).add 0) = ⟨wr.heap.size, 0, none⟩ from by simp [Addr.add]]
    rw [World.cell?_alloc_at _ _ _ _ rfl]; rfl
theorem below_row8 {B base n : Nat} {w wr w1 : World} {e : TypeId} {v : Value} {xs : List Value} {o : Obj} (hb : Below B w wr) (hB : base ≤ wr.heap.size) (hB2 : B ≤ base) (hown : wr.ownsRow base e 1 v n xs) (hg : (wr.alloc o).grownBy w1 v.ownBlock) : Below B w w1 :=
  (hb.alloc (by omega) o).grown hg (by simp; omega) (fun k hk => by have := (hown.lt k hk).1; omega)
theorem own_rdp {W : World} {base : Nat} {v : Value} {l : List Nat} (h : W.ownsRow base 2 1 v l.length (pwV l)) (hm : l.length ≤ maxLen) : RdP W v l := by
  have hl := pwV_len l
  have hat : ∀ (i x : Nat), l[i]? = some x → (pwV l)[i]? = some (Value.int .i64 (x : Int)) := fun i x hx => by unfold pwV; rw [List.getElem?_map, hx]; rfl
  rcases h.2 with ⟨rfl, h0⟩ | ⟨g, cap, cur, rfl, h1, hg, h2, h3, h4, h5⟩
  · exact ⟨none, 0, 0, rfl, h0, Nat.zero_le _, fun h => by omega⟩
  · refine ⟨_, _, _, rfl, rfl, hm, fun _ => ⟨g, 0, rfl, ?_, fun i x hx => ?_⟩⟩
    · rcases Nat.lt_or_ge g W.heap.size with h' | h'
      · exact h'
      · rw [Array.getElem?_eq_none h'] at hg; cases hg
    · have hi : i < l.length := by
        rcases Nat.lt_or_ge i l.length with h' | h'
        · exact h'
        · rw [List.getElem?_eq_none h'] at hx; cases hx
      rw [Nat.zero_add]
      exact (World.ownsRow.cellAt (w := W) (base := base) h i (by omega)).trans (hat i x hx)
theorem pws_len (p d L : Nat) : (pws p d L).length = L := by unfold pws; rw [List.length_map, List.length_range]
theorem pws_lt {p d : Nat} (hg : Deg p d) (h16 : d ≤ 16) (L : Nat) : ∀ x ∈ pws p d L, x < 65536 := by
  intro x hx
  unfold pws at hx
  obtain ⟨k, -, rfl⟩ := List.mem_map.1 hx
  have := rd_lt hg (2 ^ k)
  have := Nat.pow_le_pow_right (show 0 < 2 by omega) h16
  omega
theorem pwV_succ (p d k : Nat) : pwV (pws p d k) ++ [.int .i64 ((rd p d (2 ^ k) : Nat) : Int)] = pwV (pws p d (k + 1)) := by
  rw [pws_succ]; unfold pwV; rw [List.map_append]; rfl
set_option maxRecDepth 100000 in
set_option maxHeartbeats 1000000 in
theorem l08Count_any (P L c : Nat) (w : World) (p1 : 2 ≤ P) (p2 : P < 131072) (hg : Deg P (Nat.log2 P)) (h16 : Nat.log2 P ≤ 16) (hd1 : 1 ≤ Nat.log2 P) (hL : L ≤ 32) (hc : c ≤ 4) :
    Calls Tryd.prog 45 #[.int .i64 (P : Int), .int .i64 (L : Int), .int .i64 (c : Int)] w fun e w' => e = .returned (.int .i64 ((cmN P (Nat.log2 P) L c : Nat) : Int)) ∧ Below w.heap.size w w' := by
  obtain ⟨i0, hi, hz0, hz1, hz2⟩ := info_parts infoI8
  have HNX := Lib.hid (fun r b W hr hb => l08Next_any P (Nat.log2 P) r b W hg h16 hr hb)
  have HLT := Lib.hid (fun n => rd_lt hg n)
  have HSU := Lib.hid (fun k => rd_pow_succ P (Nat.log2 P) k)
  have hn0 : nxR P (Nat.log2 P) 0 1 = 1 := by
    have := rd_two P (Nat.log2 P) 0 1 (by omega)
    rw [rd_zero] at this
    rw [← this]
    exact rd_one hg
  have HN0 : Hid (∀ W, Calls Tryd.prog 42 #[.int .i64 (P : Int), .int .i64 0, .int .i64 1] W fun e w' => e = .returned (.int .i64 ((rd P (Nat.log2 P) (2 ^ 0) : Nat) : Int)) ∧ W = w') := by
    show ∀ W, _
    intro W
    have := HNX.out 0 1 W (Nat.two_pow_pos _) (by omega)
    rw [hn0] at this
    rw [rd_one hg]
    exact this
  have HM := Lib.hid (fun v W hv => missed_any (pws P (Nat.log2 P) L) (pws_lt hg h16 L) (by rw [pws_len]; exact hL) c 0 0 v W hv (Nat.zero_le _) hc (by omega))
  rw [List.drop_zero, cmN_chs hg] at HM
  have HSN := Lib.hid (fun k => pwV_succ P (Nat.log2 P) k)
  have HLN := Lib.hid (pws_len P (Nat.log2 P) L)
  have h2 : 2 ^ Nat.log2 P ≤ 65536 := Nat.pow_le_pow_right (by omega) h16
  obtain ⟨D, hD⟩ : ∃ D, D = Nat.log2 P := ⟨_, rfl⟩
  rw [← hD] at HNX HLT HSU HN0 HM HSN HLN h2 ⊢
  have hP0 : (0 : Int) ≤ (P : Int) := by omega
  generalize cmN P D L c = X at *
  have HW0 : Hid ((w.alloc (.cells #[] 2)).ownsRow w.heap.size 2 1 (.slice (some ⟨w.heap.size, 0, none⟩) 0 0) 0 []) := World.ownsRow_made w #[] 0 (Nat.le_refl _) (by decide) rfl
  have HB0 : Hid (Below w.heap.size w (w.alloc (.cells #[] 2))) := (Below.refl _ _).alloc (Nat.le_refl _) _
  clear hn0 hg h16 hd1 hD
  go_enter Tryd.func45, Tryd.ntmps45
  go_wp2_with fail
  refine (HN0.out _).mono ?_; rintro e w' ⟨rfl, rfl⟩
  go_wp2_with fail
  go_loopw [7, 8, 9] (fun v nw ix wr => ∃ k : Nat, k ≤ L ∧ ix = .int .i64 (k : Int) ∧ nw = .int .i64 ((rd P D (2 ^ k) : Nat) : Int) ∧ wr.ownsRow w.heap.size 2 1 v k (pwV (pws P D k)) ∧ Below w.heap.size w wr) (fun _ _ ix _ => L - (intOf ix).toNat)
  case atStart => exact ⟨0, Nat.zero_le _, rfl, rfl, HW0.out, HB0.out⟩
  case round =>
    obtain ⟨k, hk, rfl, rfl, hown, hb⟩ := hrel
    have HB := Lib.hid hb
    have HO := Lib.hid hown
    by_cases hlt : k < L
    · have HX := Lib.hid (fun W => HNX.out (rd P D (2 ^ k)) 0 W (HLT.out _) (by omega))
      rw [← HSU.out] at HX
      have hr := HLT.out (2 ^ k)
      have HS := Lib.hid (HSN.out k)
      obtain ⟨R, hR⟩ : ∃ R, R = rd P D (2 ^ (k + 1)) := ⟨_, rfl⟩
      rw [← hR] at HX
      have HR := Lib.hid hR
      have hRb := HLT.out (2 ^ (k + 1))
      rw [← hR] at hRb
      clear hR hb
      generalize rd P D (2 ^ k) = R0 at *
      go_wp2_with (at_builtin; refine wpList_append_own _ rfl _ _ 38 rfl w.heap.size 2 i0 (.int .i64 0) 1 8 Tryd.underlying38 hi hz0 hz1 hz2 rfl (by decide) _ _ _ rfl (hown.alloc _) ⟨wr.heap.size, 0, none⟩ 1 1 [.int .i64 (R0 : Int)] rfl rfl ?c1 ?c2 ?c3 ?c4 ?c5 ?_)
      case c1 => exact c1_i8 _ _ _
      case c2 => intro u hu; simp at hu; subst hu; rfl
      case c3 => unfold maxLen; omega
      case c4 => omega
      case c5 => have := HB.out.size; simp; omega
      intro v' w1 hown' hgrow _
      have HB1 := Lib.hid (below_row8 HB.out HB.out.size (Nat.le_refl _) HO.out hgrow)
      rw [HS.out] at hown'
      obtain ⟨g', cap', rfl⟩ := ownsRow_succ hown'
      have HO1 := Lib.hid hown'
      clear hgrow hown hown' HO HB
      go_wp2_with fail
      refine (HX.out _).mono ?_; rintro e w' ⟨rfl, rfl⟩
      go_wp2_with fail
      go_roundw
      case rel => exact ⟨k + 1, by omega, by go_num, by rw [HR.out], HO1.out, HB1.out⟩
      case measure => simp [intOf]; omega
    · obtain rfl : k = L := by omega
      have hown2 := hown
      rw [show wr.ownsRow w.heap.size 2 1 _ k (pwV (pws P D k)) = wr.ownsRow w.heap.size 2 1 _ (pws P D k).length (pwV (pws P D k)) by rw [HLN.out]] at hown2
      have HC := Lib.hid (HM.out _ _ (own_rdp hown2 (by rw [HLN.out]; unfold maxLen; omega)))
      clear hown2 hown hb HNX HLT HSU
      rw [show ((0 : Nat) : Int) = 0 from rfl] at HC
      go_wp2_with fail
      refine HC.out.mono ?_; rintro e w2 ⟨rfl, hb2⟩
      have HB2 := Lib.hid (HB.out.trans (hb2.mono HB.out.size))
      clear hb2 HC
      go_wp2_with fail
      go_ret
      exact ⟨rfl, HB2.out⟩
end Go.Proofs.YtkgfmpkpeipddabDoor
