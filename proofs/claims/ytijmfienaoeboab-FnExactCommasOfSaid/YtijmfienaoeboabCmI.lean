/- The program's canContain. -/
import Derived.Test.YtijmfienaoeboabSri
import Derived.Test.YtijmfienaoeboabCmA
import Derived.Test.YtijmfienaoeboabBeh
namespace Go.Proofs.Ytijmfienaoeboab
open Go Go.RowKit Go.Shelf
set_option linter.unusedVariables false
attribute [local go_sem] Oper.semAt_some

theorem below_others {W W' : World} (h : Below W.heap.size W W') : KeepsOthers W W' :=
  ⟨h.size, fun k o hk _ => (h.block k (Array.getElem?_eq_some_iff.1 hk).1).trans hk⟩
theorem kpW_of {n0 B : Nat} {W W' : World} (h : Below W.heap.size W W') (hn : n0 ≤ W.heap.size) (hB : B < W.heap.size) : KpW n0 B W W' :=
  ⟨(Below.refl n0 W).trans (h.mono hn), fun o e => (h.block B hB).trans e⟩
theorem mem_pws {wd s : Int} {hs : s = -1 ∨ s = 1} {l : List ByteArray} {hl : ∀ x ∈ l, wordOk wd (-s - s) x = true} {x : PW wd} (h : x ∈ pws wd s hs l hl) : x.1.1 = s ∧ x.1.2 ∈ l := by
  unfold pws at h
  obtain ⟨a, ha, e⟩ := List.mem_pmap.1 h
  rw [← e]
  exact ⟨rfl, ha⟩
theorem pws_mem {wd s : Int} {hs : s = -1 ∨ s = 1} {l : List ByteArray} {hl : ∀ x ∈ l, wordOk wd (-s - s) x = true} {y : ByteArray} (h : y ∈ l) : (⟨(s, y), hs, hl y h⟩ : PW wd) ∈ pws wd s hs l hl :=
  List.mem_pmap.2 ⟨y, h, rfl⟩
theorem pc_yes {wd : Int} {m p : List ByteArray} {om : ∀ x ∈ m, wordOk wd (- -1 - -1) x = true} {op : ∀ x ∈ p, wordOk wd (-1 - 1) x = true} {pat : List UInt8} {x : PW wd} (hx : x ∈ pws wd (-1) (.inl rfl) m om ++ pws wd 1 (.inr rfl) p op) (h : prB m p pat x.1.1 x.1.2 = true) : pcB m p pat = true := by
  rw [pcB_iff]
  rcases List.mem_append.1 hx with hx | hx
  · obtain ⟨e, hm⟩ := mem_pws hx
    exact ⟨x.1.1, x.1.2, .inl e, by rw [e]; exact hm, h⟩
  · obtain ⟨e, hm⟩ := mem_pws hx
    exact ⟨x.1.1, x.1.2, .inr e, by rw [e]; exact hm, h⟩
theorem pc_no {wd : Int} {m p : List ByteArray} {om : ∀ x ∈ m, wordOk wd (- -1 - -1) x = true} {op : ∀ x ∈ p, wordOk wd (-1 - 1) x = true} {pat : List UInt8} (h : ∀ x ∈ pws wd (-1) (.inl rfl) m om ++ pws wd 1 (.inr rfl) p op, prB m p pat x.1.1 x.1.2 = false) : pcB m p pat = false := by
  cases e : pcB m p pat
  · rfl
  · obtain ⟨s, y, hs, hy, ht⟩ := (pcB_iff _ _ _).1 e
    rcases hs with rfl | rfl
    · have := h _ (List.mem_append.2 (.inl (pws_mem hy)))
      dsimp only at this
      rw [this] at ht; exact absurd ht (by decide)
    · have := h _ (List.mem_append.2 (.inr (pws_mem hy)))
      dsimp only at this
      rw [this] at ht; exact absurd ht (by decide)

set_option maxRecDepth 100000 in
set_option maxHeartbeats 2000000 in
theorem canContain_any (w : World) (d wd : Int) (A1 A2 : Option Addr) (n1 n2 c1 c2 : Nat) (m p : List ByteArray) (pat : ByteArray) (mx : Int) (hm : RdS w (.slice A1 n1 c1) m) (hp : RdS w (.slice A2 n2 c2) p) (hok : bcOk d wd m p = true) (hpat : pat.size ≤ 400) (hmx : w.cell? ⟨0, 0, none⟩ = some (.int .i64 mx)) (lm : m.length ≤ 4000000) (lp : p.length ≤ 4000000) :
    Calls Try.prog 116 #[.agg #[.int .i64 d, .int .i64 wd, .slice A1 n1 c1, .slice A2 n2 c2], .string pat] w fun e w' => e = .returned (.bool (pcB m p pat.data.toList)) ∧ Below w.heap.size w w' := by
  have h1 : 1 ≤ 9 := by omega
  have hmxo : Try.prog.follows .mixedOrders = true := by kernel_rfl
  obtain ⟨hw12, om, op⟩ := bcOk_parts hok
  have HM := Lib.hid hm
  have HP := Lib.hid hp
  have HOM := Lib.hid om
  have HOP := Lib.hid op
  have HMX := Lib.hid hmx
  have HZ0 : Hid (0 < w.heap.size) := by
    show 0 < _
    obtain ⟨o, ho, -⟩ := cells_of_cell hmx
    exact (Array.getElem?_eq_some_iff.1 ho).1
  clear hm hp om op hok hmx
  refine (callsIn_wide (n := 9)).1 ?_
  refine callsIn_of_wp_marks Try.func116 rfl trivial ?_ rfl
  simp only [Try.ntmps116, List.size_toArray, List.length_cons, List.length_nil, Nat.reduceAdd, Nat.reduceSub, Array.replicate_succ, Array.replicate_zero, List.push_toArray, List.append_toArray, List.nil_append, List.cons_append]
  gi_wp2_with fail
  refine ⟨trivial, (callsIn_wide.2 (eachWord_any d wd A1 A2 n1 n2 c1 c2 _)).mono ?_⟩; rintro e w4 ⟨rfl, rfl⟩
  have e2 := ((Bk.new w (bcV d wd (.slice A1 n1 c1) (.slice A2 n2 c2)) 61 _ rfl).alloc (.cells #[.string pat] 9)).alloc (.cells #[.bool false] 4)
  have e3 := (Bk.new (w.alloc (.cells #[.int .i64 d, .int .i64 wd, .slice A1 n1 c1, .slice A2 n2 c2] 61)) [.string pat] 9 (w.heap.size + 1) (by simp)).alloc (.cells #[.bool false] 4)
  have e4 := Bk.new ((w.alloc (.cells #[.int .i64 d, .int .i64 wd, .slice A1 n1 c1, .slice A2 n2 c2] 61)).alloc (.cells #[.string pat] 9)) [.bool false] 4 (w.heap.size + 1 + 1) (by simp)
  have HB3 : Hid (Below w.heap.size w (((w.alloc (.cells #[.int .i64 d, .int .i64 wd, .slice A1 n1 c1, .slice A2 n2 c2] 61)).alloc (.cells #[.string pat] 9)).alloc (.cells #[.bool false] 4))) := (((Below.refl _ _).alloc (Nat.le_refl _) _).alloc (by simp) _).alloc (by simp; omega) _
  have hz3 : (((w.alloc (.cells #[.int .i64 d, .int .i64 wd, .slice A1 n1 c1, .slice A2 n2 c2] 61)).alloc (.cells #[.string pat] 9)).alloc (.cells #[.bool false] 4)).heap.size = w.heap.size + 3 := by simp
  have k2 : Bk (((w.alloc (.cells #[.int .i64 d, .int .i64 wd, .slice A1 n1 c1, .slice A2 n2 c2] 61)).alloc (.cells #[.string pat] 9)).alloc (.cells #[.bool false] 4)) w.heap.size (bcV d wd (.slice A1 n1 c1) (.slice A2 n2 c2)) := e2
  have k3 : Bk (((w.alloc (.cells #[.int .i64 d, .int .i64 wd, .slice A1 n1 c1, .slice A2 n2 c2] 61)).alloc (.cells #[.string pat] 9)).alloc (.cells #[.bool false] 4)) (w.heap.size + 1) [.string pat] := e3
  have k4 : Bk (((w.alloc (.cells #[.int .i64 d, .int .i64 wd, .slice A1 n1 c1, .slice A2 n2 c2] 61)).alloc (.cells #[.string pat] 9)).alloc (.cells #[.bool false] 4)) (w.heap.size + 1 + 1) [.bool false] := e4
  clear e2 e3 e4
  generalize ((w.alloc (.cells #[.int .i64 d, .int .i64 wd, .slice A1 n1 c1, .slice A2 n2 c2] 61)).alloc (.cells #[.string pat] 9)).alloc (.cells #[.bool false] 4) = W3 at *
  have HBQ : Hid (Bk (W3.alloc (.cells #[.int .i64 d, .int .i64 wd, .slice A1 n1 c1, .slice A2 n2 c2] 61)) W3.heap.size (bcV d wd (.slice A1 n1 c1) (.slice A2 n2 c2))) := Bk.new W3 (bcV d wd (.slice A1 n1 c1) (.slice A2 n2 c2)) 61 W3.heap.size rfl
  have HB4 : Hid (Below w.heap.size w (W3.alloc (.cells #[.int .i64 d, .int .i64 wd, .slice A1 n1 c1, .slice A2 n2 c2] 61))) := HB3.out.alloc (by omega) _
  have H2 := Lib.hid (k2.alloc (.cells #[.int .i64 d, .int .i64 wd, .slice A1 n1 c1, .slice A2 n2 c2] 61))
  have H3 := Lib.hid (k3.alloc (.cells #[.int .i64 d, .int .i64 wd, .slice A1 n1 c1, .slice A2 n2 c2] 61))
  have H4 := Lib.hid (k4.alloc (.cells #[.int .i64 d, .int .i64 wd, .slice A1 n1 c1, .slice A2 n2 c2] 61))
  have HZ3 := Lib.hid hz3
  have HZ4 : Hid ((W3.alloc (.cells #[.int .i64 d, .int .i64 wd, .slice A1 n1 c1, .slice A2 n2 c2] 61)).heap.size = w.heap.size + 4) := by show _ = _; simp [hz3]
  clear k2 k3 k4 hz3
  generalize W3.alloc (.cells #[.int .i64 d, .int .i64 wd, .slice A1 n1 c1, .slice A2 n2 c2] 61) = W4 at *
  gi_wp2_with fail
  refine wpIn_rangeFunc_ownF rfl h1 (gf := 175) (lb := #[.pointer (some ⟨W3.heap.size, 0, none⟩)]) rfl trivial (enters_of Try.func175 (by kernel_rfl) rfl)
    (eachWord_stops 8 (by omega) W3.heap.size w W4 d wd A1 A2 n1 n2 c1 c2 m p HM.out HP.out HOM.out HOP.out lm lp HB4.out HBQ.out) kpW_t (kpW_b HB4.out.size HBQ.out.2.2) (Below.refl _ _) (fun _ => rfl)
    (fun pre W => ((∀ x ∈ pre, prB m p pat.data.toList x.1.1 x.1.2 = false)) ∧ (Bk W w.heap.size (bcV d wd (.slice A1 n1 c1) (.slice A2 n2 c2)) ∧ Bk W (w.heap.size + 1) [.string pat] ∧ Bk W (w.heap.size + 1 + 1) [.bool false]) ∧ w.heap.size + 3 < W.heap.size ∧ Below w.heap.size w W)
    (fun c pre W => (c = .ret ∧ ∃ x ∈ pre, prB m p pat.data.toList x.1.1 x.1.2 = true) ∧ Bk W (w.heap.size + 1 + 1) [.bool true] ∧ Below w.heap.size w W)
    (OwnFrom.and (fun _ _ _ _ h _ _ => h) (OwnFrom.and (Own.from (fun s A B row hs hg hr => ⟨bk_kept hs.1 hg hr, bk_kept hs.2.1 hg hr, bk_kept hs.2.2 hg hr⟩) _) (OwnFrom.and (fun _ _ _ _ h hg _ => Nat.lt_of_lt_of_le h hg.size) (ownFrom_below (Nat.le_refl _) HB4.out.size))))
    (fun c => OwnFrom.and (fun _ _ _ _ h _ _ => h) (OwnFrom.and (Own.from (fun s A B row hs hg hr => bk_kept hs hg hr) _) (ownFrom_below (Nat.le_refl _) HB4.out.size)))
    ⟨fun x hx => absurd hx (by simp), ⟨H2.out, H3.out, H4.out⟩, by rw [HZ4.out]; omega, HB4.out⟩
    (fun x => { tmps := #[.agg #[.int .i64 d, .int .i64 wd, .slice A1 n1 c1, .slice A2 n2 c2], .string pat, .pointer (some ⟨w.heap.size, 0, none⟩), .pointer (some ⟨w.heap.size + 1, 0, none⟩), .pointer (some ⟨w.heap.size + 1 + 1, 0, none⟩), .int .i64 x.1.1, .string x.1.2, undef,
      .agg #[.int .i64 d, .int .i64 wd, .slice A1 n1 c1, .slice A2 n2 c2], .func (.func 175) #[] #[.pointer (some ⟨W3.heap.size, 0, none⟩)], .int .i64 x.1.1, .string x.1.2,
      undef, undef, undef, undef, undef, undef, undef, undef, undef, undef, undef, undef, undef, undef], defers := [] }) ?assign ?body ?done ?stop
  case assign =>
    intro l x W K hK
    gi_wp2
    exact hK
  case body =>
    rintro l pre ⟨⟨s, y⟩, hs, hok'⟩ W ⟨hno, ⟨k2, k3, k4⟩, hsz, hbl⟩ _
    obtain ⟨hbits, hy12⟩ := wordOk_bits hok' hw12
    have hyB := (wordOk_parts hok').1
    dsimp only at hs hok' hbits hy12 hyB ⊢
    have hu := nxS_st s y hs
    have hpr : prB m p pat.data.toList s y = (Lib.contains y.data.toList pat.data.toList || laB y.data.toList pat.data.toList (wl m p (nxS s y))) := rfl
    have HBE := Lib.hid (fun W => behind_ex s y W hyB)
    have HWO := Lib.hid (fun W => words_ex d wd (nxS s y) A1 A2 n1 n2 c1 c2 W hu)
    have hsel : ∃ A n c, (if nxS s y = -1 then (.slice A1 n1 c1 : Value) else .slice A2 n2 c2) = .slice A n c ∧ RdS w (.slice A n c) (wl m p (nxS s y)) ∧ (wl m p (nxS s y)).length ≤ 4000000 := by
      rcases hu with h | h <;> rw [h]
      · exact ⟨_, _, _, rfl, HM.out, lm⟩
      · exact ⟨_, _, _, rfl, HP.out, lp⟩
    obtain ⟨A, n, c, eV, hrV, hlV⟩ := hsel
    rw [eV] at HWO
    have HCN := Lib.hid (fun W h => Try.strings_Contains y pat mx W (by omega) h)
    have HLA := Lib.hid (fun W hr => liesAcross_any W (.slice A n c) (wl m p (nxS s y)) pat y hpat (by omega) hr hlV)
    have HPR := Lib.hid hpr
    have HRV := Lib.hid hrV
    have HNO := Lib.hid hno
    have HSZ := Lib.hid hsz
    have HBL := Lib.hid hbl
    have K2 := Lib.hid k2
    have K3 := Lib.hid k3
    have K4 := Lib.hid k4
    have kd := k2.drew
    clear hu hpr eV hrV hlV hno hsz hbl k2 k3 k4 hyB hbits
    have HSY : Hid (prB m p pat.data.toList s y = false → ∀ x ∈ pre ++ [(⟨(s, y), hs, hok'⟩ : PW wd)], prB m p pat.data.toList x.1.1 x.1.2 = false) := by
      show _ → _
      intro h x hx
      rcases List.mem_append.1 hx with h' | h'
      · exact HNO.out x h'
      · rw [List.mem_singleton.1 h']; exact h
    have HSX : Hid (prB m p pat.data.toList s y = true → ∃ x ∈ pre ++ [(⟨(s, y), hs, hok'⟩ : PW wd)], prB m p pat.data.toList x.1.1 x.1.2 = true) := by
      show _ → _
      intro h
      exact ⟨_, List.mem_append.2 (.inr (List.mem_singleton.2 rfl)), h⟩
    have HBW3 : Hid (W3.heap.size < W.heap.size) := by show _ < _; rw [HZ3.out]; exact HSZ.out
    generalize Lib.contains y.data.toList pat.data.toList = C at *
    generalize laB y.data.toList pat.data.toList (wl m p (nxS s y)) = L at *
    generalize nxS s y = u at *
    obtain ⟨q0, q1, q2, q3⟩ := bk_all kd
    cases C
    · cases L
      all_goals gi_wp2_with fail
      all_goals gi_region_with_o (first
        | (refine ⟨trivial, ?_⟩; gi_at_call 171; refine (CallsIn.inRound l (callsIn_wide.2 (HBE.out _))).mono ?_; rintro e w7 ⟨rfl, hb7⟩; have k7 := kd.keep hb7; have B7 := Lib.hid hb7; clear hb7; obtain ⟨r0, r1, r2, r3⟩ := bk_all k7)
        | (refine ⟨trivial, ?_⟩; gi_at_call 170; refine (CallsIn.inRound l (callsIn_wide.2 (HWO.out _))).mono ?_; rintro e w8 ⟨rfl, o8, rfl⟩)
        | fail)
      all_goals (have HBW : Hid (Below W.heap.size W (w7.alloc o8)) := (((Below.refl W.heap.size W).drew).trans B7.out).alloc (by have := B7.out.size; exact this) _)
      all_goals clear B7 k7 kd
      all_goals generalize w7.alloc o8 = V at *
      all_goals have v3 := (K3.out.keep HBW.out).c 0 _ rfl
      all_goals have v4 := (K4.out.keep HBW.out).c 0 _ rfl
      all_goals have u4 := (K4.out.keep HBW.out).f 0 (by simp)
      all_goals have vx := ((HBL.out.trans (HBW.out.mono HBL.out.size)).cell (p := ⟨0, 0, none⟩) HZ0.out).trans HMX.out
      all_goals gi_wp2_with fail
      all_goals (refine ⟨trivial, (CallsIn.inRound l (callsIn_wide.2 (HCN.out _ vx))).mono ?_⟩; rintro e w9 ⟨rfl, rfl⟩)
      all_goals gi_wp2_with fail
      all_goals (refine ⟨trivial, (CallsIn.inRound l (callsIn_wide.2 (HLA.out _ (HRV.out.keep (HBL.out.trans (HBW.out.mono HBL.out.size)))))).mono ?_⟩; rintro e w10 ⟨rfl, hb10⟩)
      all_goals (have HBX := Lib.hid (HBW.out.trans (hb10.mono HBW.out.size)))
      all_goals clear hb10 v3 v4 u4 vx
      all_goals have v4 := (K4.out.keep HBX.out).c 0 _ rfl
      all_goals have u4 := (K4.out.keep HBX.out).f 0 (by simp)
      all_goals gi_wp2_with fail
      all_goals first
        | exact ⟨below_others HBX.out, kpW_of HBX.out HBL.out.size HBW3.out, HSY.out HPR.out, ⟨K2.out.keep HBX.out, K3.out.keep HBX.out, K4.out.keep HBX.out⟩, Nat.lt_of_lt_of_le HSZ.out HBX.out.size, HBL.out.trans (HBX.out.mono HBL.out.size)⟩
        | exact ⟨(below_others HBX.out).trans (KeepsOthers.setCell _ _ _), ⟨rfl, HSX.out HPR.out⟩, (K4.out.keep HBX.out).set 0 (by simp) _, (HBL.out.trans (HBX.out.mono HBL.out.size)).setCell (p := ⟨w.heap.size + 1 + 1, 0, none⟩) (by simp; omega) _⟩
    · gi_wp2_with fail
      gi_region_with_o (first
        | (refine ⟨trivial, ?_⟩; gi_at_call 171; refine (CallsIn.inRound l (callsIn_wide.2 (HBE.out _))).mono ?_; rintro e w7 ⟨rfl, hb7⟩; have k7 := kd.keep hb7; have B7 := Lib.hid hb7; clear hb7; obtain ⟨r0, r1, r2, r3⟩ := bk_all k7)
        | (refine ⟨trivial, ?_⟩; gi_at_call 170; refine (CallsIn.inRound l (callsIn_wide.2 (HWO.out _))).mono ?_; rintro e w8 ⟨rfl, o8, rfl⟩)
        | fail)
      all_goals (have HBW : Hid (Below W.heap.size W (w7.alloc o8)) := (((Below.refl W.heap.size W).drew).trans B7.out).alloc (by have := B7.out.size; exact this) _)
      all_goals clear B7 k7 kd
      all_goals generalize w7.alloc o8 = V at *
      all_goals have v3 := (K3.out.keep HBW.out).c 0 _ rfl
      all_goals have v4 := (K4.out.keep HBW.out).c 0 _ rfl
      all_goals have u4 := (K4.out.keep HBW.out).f 0 (by simp)
      all_goals have vx := ((HBL.out.trans (HBW.out.mono HBL.out.size)).cell (p := ⟨0, 0, none⟩) HZ0.out).trans HMX.out
      all_goals gi_wp2_with fail
      all_goals (refine ⟨trivial, (CallsIn.inRound l (callsIn_wide.2 (HCN.out _ vx))).mono ?_⟩; rintro e w9 ⟨rfl, rfl⟩)
      all_goals gi_wp2_with fail
      all_goals refine ⟨trivial, ?_⟩
      all_goals gi_wp2_with fail
      all_goals exact ⟨(below_others HBW.out).trans (KeepsOthers.setCell _ _ _), ⟨rfl, HSX.out HPR.out⟩, (K4.out.keep HBW.out).set 0 (by simp) _, (HBL.out.trans (HBW.out.mono HBL.out.size)).setCell (p := ⟨w.heap.size + 1 + 1, 0, none⟩) (by simp; omega) _⟩
  case done =>
    rintro D ys W hD rfl ⟨hno, ⟨k2, k3, k4⟩, hsz, hbl⟩ hK
    have q4 := k4.c 0 _ rfl
    have f4 := k4.f 0 (by simp)
    have HPN := Lib.hid (pc_no hno)
    gi_wp2_with fail
    have hK' := (KeepsOthers.setCell W ⟨w.heap.size + 1 + 1, 0, none⟩ (.bool false)).same D _ hK rfl
    refine ⟨by simp, .inl ⟨_, _, rfl, run_takeDeferred hK', ?_⟩⟩
    have hc5 := cell_kept (World.cell?_setCell_same' W ⟨w.heap.size + 1 + 1, 0, none⟩ (.bool false) (by rw [q4]; rfl)) (grownBy_putObj' _ D (.deferred none)) (fun r e => by cases e; exact ⟨_, hK', rfl⟩)
    refine ⟨.bool false, ?_, by rw [HPN.out], (hbl.setCell (p := ⟨w.heap.size + 1 + 1, 0, none⟩) (by simp; omega) _).trans (belowK_b (w := w) (Nat.le_refl _) _ D _ _ (Nat.le_trans HB4.out.size hD) hK' rfl rfl)⟩
    simp [results, Try.f116, go_sem, hc5]
  case stop =>
    rintro D c pre W hD hpre ⟨⟨rfl, x, hx, hpx⟩, k4, hbl⟩ hK
    have q4 := k4.c 0 _ rfl
    have HPY := Lib.hid (pc_yes (hpre.subset hx) hpx)
    gi_wp2_with fail
    refine ⟨by simp, .inl ⟨_, _, rfl, run_takeDeferred hK, ?_⟩⟩
    have hc5 := cell_kept q4 (grownBy_putObj' _ D (.deferred none)) (fun r e => by cases e; exact ⟨_, hK, rfl⟩)
    refine ⟨.bool true, ?_, by rw [HPY.out], hbl.trans (belowK_b (w := w) (Nat.le_refl _) W D _ _ (Nat.le_trans HB4.out.size hD) hK rfl rfl)⟩
    simp [results, Try.f116, go_sem, hc5]
end Go.Proofs.Ytijmfienaoeboab
