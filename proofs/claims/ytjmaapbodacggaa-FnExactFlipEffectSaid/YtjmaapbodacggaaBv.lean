/- Contracts of the program's small functions on block codes: areSizes, lineStates, opposite, change, words, dataOf. -/
import Derived.Test.YtjmaapbodacggaaBcP
import Derived.Test.YtjmaapbodacggaaBc
import Derived.Test.YtjmaapbodacggaaBtw
import Derived.Maps.OwnSet
namespace Go.Proofs.Ytjmaapbodacggaa
open Go Go.RowKit Go.Maps
set_option linter.unusedVariables false

theorem areSizes_any (d wd : Int) (w : World) :
    Calls Try.prog 135 #[.int .i64 d, .int .i64 wd] w fun e w' => e = .returned (.bool (szOk d wd)) ∧ w = w' := by
  by_cases h1 : 1 ≤ d ∧ d ≤ 6
  · obtain ⟨d1, d2⟩ := h1
    by_cases h2 : 2 ≤ wd ∧ wd ≤ 12
    · obtain ⟨w1, w2⟩ := h2
      by_cases h3 : wd % 2 = 0
      · have HE : Hid (szOk d wd = true) := decide_eq_true ⟨⟨d1, d2⟩, ⟨w1, w2⟩, h3⟩
        have s1 : (wd % 2 == 0) = true := beq_t h3
        clear h3
        go_enter Try.func135, Try.ntmps135
        go_wp2_with fail
        refine (btw_yes _ _ _ _ d1 d2).mono ?_; rintro e w' ⟨rfl, rfl⟩
        go_wp2_with fail
        refine (btw_yes _ _ _ _ w1 w2).mono ?_; rintro e w' ⟨rfl, rfl⟩
        go_wp2_with fail
        go_ret
        exact ⟨ret_bool HE.out.symm, rfl⟩
      · have HE : Hid (szOk d wd = false) := decide_eq_false (fun e => h3 e.2.2)
        have s1 : (wd % 2 == 0) = false := beq_f h3
        clear h3
        go_enter Try.func135, Try.ntmps135
        go_wp2_with fail
        refine (btw_yes _ _ _ _ d1 d2).mono ?_; rintro e w' ⟨rfl, rfl⟩
        go_wp2_with fail
        refine (btw_yes _ _ _ _ w1 w2).mono ?_; rintro e w' ⟨rfl, rfl⟩
        go_wp2_with fail
        go_ret
        exact ⟨ret_bool HE.out.symm, rfl⟩
    · have HE : Hid (szOk d wd = false) := decide_eq_false (fun e => h2 e.2.1)
      have H2 := Lib.hid h2
      clear h2
      go_enter Try.func135, Try.ntmps135
      go_wp2_with fail
      refine (btw_yes _ _ _ _ d1 d2).mono ?_; rintro e w' ⟨rfl, rfl⟩
      go_wp2_with fail
      refine (btw_no _ _ _ _ H2.out).mono ?_; rintro e w' ⟨rfl, rfl⟩
      go_wp2_with fail
      go_ret
      exact ⟨ret_bool HE.out.symm, rfl⟩
  · have HE : Hid (szOk d wd = false) := decide_eq_false (fun e => h1 e.1)
    have H1 := Lib.hid h1
    clear h1
    go_enter Try.func135, Try.ntmps135
    go_wp2_with fail
    refine (btw_no _ _ _ _ H1.out).mono ?_; rintro e w' ⟨rfl, rfl⟩
    go_wp2_with fail
    go_ret
    exact ⟨ret_bool HE.out.symm, rfl⟩

theorem lineStates_any (w : World) :
    Calls Try.prog 136 #[] w fun e w' => e = .returned (.agg #[.int .i64 (-1), .int .i64 1]) ∧ Below w.heap.size w w' := by
  go_enter Try.func136, Try.ntmps136
  go_wp2_with fail
  simp [bodyPost, results, Try.results136, go_sem]
  exact (Below.refl _ _).alloc (Nat.le_refl _) _

theorem opposite_any (s : Int) (h0 : -1 ≤ s) (h1 : s ≤ 1) (w : World) :
    Calls Try.prog 141 #[.int .i64 s] w fun e w' => e = .returned (.int .i64 (-s)) ∧ w = w' := by
  go_enter Try.func141, Try.ntmps141
  go_wp2_with fail
  go_ret
  exact ⟨rfl, rfl⟩
theorem change_any (s : Int) (h0 : -1 ≤ s) (h1 : s ≤ 1) (w : World) :
    Calls Try.prog 145 #[.int .i64 s] w fun e w' => e = .returned (.int .i64 (-s - s)) ∧ w = w' := by
  have HC := Lib.hid (fun W => opposite_any s h0 h1 W)
  go_enter Try.func145, Try.ntmps145
  go_wp2_with fail
  refine (HC.out _).mono ?_; rintro e w' ⟨rfl, rfl⟩
  go_wp2_with fail
  go_ret
  exact ⟨rfl, rfl⟩

theorem words_minus (d wd : Int) (A1 A2 : Option Addr) (n1 n2 c1 c2 : Nat) (w : World) :
    Calls Try.prog 116 #[.agg #[.int .i64 d, .int .i64 wd, .slice A1 n1 c1, .slice A2 n2 c2], .int .i64 (-1)] w fun e w' => e = .returned (.slice A1 n1 c1) ∧ Below w.heap.size w w' := by
  go_enter Try.func116, Try.ntmps116
  go_wp2_with fail
  go_ret
  exact ⟨rfl, (Below.refl _ _).alloc (Nat.le_refl _) _⟩
theorem words_plus (d wd : Int) (A1 A2 : Option Addr) (n1 n2 c1 c2 : Nat) (w : World) :
    Calls Try.prog 116 #[.agg #[.int .i64 d, .int .i64 wd, .slice A1 n1 c1, .slice A2 n2 c2], .int .i64 1] w fun e w' => e = .returned (.slice A2 n2 c2) ∧ Below w.heap.size w w' := by
  go_enter Try.func116, Try.ntmps116
  go_wp2_with fail
  go_ret
  exact ⟨rfl, (Below.refl _ _).alloc (Nat.le_refl _) _⟩

theorem lawStr : Keyed Try.prog 9 := string_keyed Try.underlying9
theorem zeroInt (w : World) : (zeroValue 2).run Try.prog w = .ok (.int .i64 0) w := by kernel_rfl
/-- A map of the call's own from words to their indices. -/
def OwnM (w : World) (b n : Nat) (l : List ByteArray) : Prop := w.ownsMap (H := Unit) Try.prog 9 (plainElem Try.prog 2) b n (wM l)
theorem OwnM.keep {w w' : World} {b n : Nat} {l : List ByteArray} (h : OwnM w b n l) (hb : Below w.heap.size w w') : OwnM w' b n l := by
  have hlt := World.ownsMap.lt h
  obtain ⟨es, clock, he, r⟩ := h
  exact ⟨es, clock, by rw [hb.block b hlt]; exact he, r⟩

theorem makeMap_hint (w : World) (n : Int) : (Instr.makeMap 131 (some (.int .i64 n))).run Try.prog w = .ok (.map (some w.heap.size)) (w.alloc (.map #[] 0)) := by
  simp [Instr.makeMap, asInt, go_sem]

set_option maxRecDepth 100000 in
theorem dataOf_any (w : World) (v : Value) (l : List ByteArray) (h : RdS w v l) (hm : ∀ s ∈ l, s.size ≤ 4000000) (hl : l.length ≤ 4000000) :
    Calls Try.prog 138 #[v] w fun e w' => e = .returned (.map (some w.heap.size)) ∧ OwnM w' w.heap.size l.length l ∧ Below w.heap.size w w' := by
  obtain ⟨A, n, c, rfl, hn, -, -, r⟩ := h
  rw [hn] at hl ⊢
  have HN := Lib.hid hn
  have HR := Lib.hid r
  have HM := Lib.hid hm
  clear hn r hm
  have hmm := fun (W : World) => makeMap_hint W (n : Int)
  go_enter Try.func138, Try.ntmps138
  go_wp2_with fail
  clear hmm
  go_loopw [11] (fun i wr => ∃ k : Nat, k ≤ n ∧ i = .int .i64 k ∧ OwnM wr w.heap.size k (l.take k) ∧ Below w.heap.size w wr) (fun i _ => n - (intOf i).toNat)
  case atStart => exact ⟨0, Nat.zero_le _, rfl, World.ownsMap_made _ _ _ _, (Below.refl _ _).alloc (Nat.le_refl _) _⟩
  case round =>
    obtain ⟨k, hk, rfl, hown, hb⟩ := hrel
    by_cases hlt : k < n
    · obtain ⟨b, o, rfl, hlt0, hc⟩ := HR.out (by omega)
      have hkl : k < l.length := by have := HN.out; omega
      have hc0 := (hb.cell (p := ⟨b, o + k, none⟩) hlt0).trans (hc k hkl)
      have hx := HM.out l[k] (List.getElem_mem hkl)
      have HS : Hid ((wM (l.take (k + 1)) : DataW Unit) = (wM (l.take k)).put (keyL l[k]) (.lit (.int .i64 (k : Int)))) := by
        show _ = _
        rw [List.take_succ_eq_append_getElem hkl, wM_snoc, List.length_take, Nat.min_eq_left (by omega)]
      have hkey : keyOf Try.prog 9 (.string l[k]) = some (keyL l[k]) := WideMaps.keyOf_string_mk Try.underlying9 (by unfold maxLen; omega)
      have hwf : (Lit.int .i64 (k : Int)).wf = true := WalkArith.wf_i64 (by omega)
      have hk0 : (0 : Int) ≤ (k : Int) := by omega
      have hk1 : (k : Int) < (n : Int) := by omega
      have HK := Lib.hid hkey
      have HWF := Lib.hid hwf
      have HOWN := Lib.hid hown
      have HB := Lib.hid hb
      clear hc hx hkey hwf hown hb
      generalize l[k] = x at *
      go_wp2_with (at_mapUpdate; refine wpList_mapUpdate_own _ rfl _ _ _ 131 rfl 9 2 lawStr Try.underlying131 _ w.heap.size k _ rfl HOWN.out (by unfold maxLen; omega) _ _ _ rfl rfl HK.out _ [] (plainElem_int Try.underlying2 HWF.out) ?_; intro w1 hown1 hgrow1)
      have HO1 : Hid (OwnM w1 w.heap.size (k + 1) (l.take (k + 1))) := by show OwnM _ _ _ _; unfold OwnM; rw [HS.out]; exact hown1
      have HB1 := Lib.hid (HB.out.grown hgrow1 HB.out.size (fun j hj => by cases hj; exact Nat.le_refl _))
      clear hown1 hgrow1
      go_wp2_with fail
      go_roundw
      case rel => exact ⟨k + 1, by omega, by go_num, HO1.out, HB1.out⟩
      case measure => simp [intOf]; omega
    · obtain rfl : k = n := by omega
      have HO : Hid (OwnM wr w.heap.size k l) := by show OwnM _ _ _ _; rw [List.take_of_length_le (by have := HN.out; omega)] at hown; exact hown
      have HB := Lib.hid hb
      clear hown hb
      go_wp2_with fail
      go_ret
      exact ⟨rfl, HO.out, HB.out⟩
end Go.Proofs.Ytjmaapbodacggaa
