/- The program's dataOf: a map from words to their indices (the like of Bv, without block codes: import one of the two). -/
import Derived.Test.YtijmfienaoeboaaWlP
import Derived.Test.YtijmfienaoeboaaRs
import Derived.Maps.OwnSet
namespace Go.Proofs.Ytijmfienaoeboaa
open Go Go.RowKit Go.Maps
set_option linter.unusedVariables false

theorem lawStr : Keyed Try.prog 9 := string_keyed Try.underlying9
theorem zeroInt (w : World) : (zeroValue 2).run Try.prog w = .ok (.int .i64 0) w := by kernel_rfl
/-- A map of the call's own from words to their indices. -/
def OwnM (w : World) (b n : Nat) (l : List ByteArray) : Prop := w.ownsMap (H := Unit) Try.prog 9 (plainElem Try.prog 2) b n (wM l)
theorem OwnM.keep {w w' : World} {b n : Nat} {l : List ByteArray} (h : OwnM w b n l) (hb : Below w.heap.size w w') : OwnM w' b n l := by
  have hlt := World.ownsMap.lt h
  obtain ⟨es, clock, he, r⟩ := h
  exact ⟨es, clock, by rw [hb.block b hlt]; exact he, r⟩

theorem makeMap_hint (w : World) (n : Int) : (Instr.makeMap 76 (some (.int .i64 n))).run Try.prog w = .ok (.map (some w.heap.size)) (w.alloc (.map #[] 0)) := by
  simp [Instr.makeMap, asInt, go_sem]

set_option maxRecDepth 100000 in
theorem dataOf_any (w : World) (v : Value) (l : List ByteArray) (h : RdS w v l) (hm : ∀ s ∈ l, s.size ≤ 4000000) (hl : l.length ≤ 4000000) :
    Calls Try.prog 67 #[v] w fun e w' => e = .returned (.map (some w.heap.size)) ∧ OwnM w' w.heap.size l.length l ∧ Below w.heap.size w w' := by
  obtain ⟨A, n, c, rfl, hn, -, -, r⟩ := h
  rw [hn] at hl ⊢
  have HN := Lib.hid hn
  have HR := Lib.hid r
  have HM := Lib.hid hm
  clear hn r hm
  have hmm := fun (W : World) => makeMap_hint W (n : Int)
  go_enter Try.func67, Try.ntmps67
  go_wp2_with fail
  clear hmm
  go_loopw [11] (fun i wr => ∃ k : Nat, k ≤ n ∧ i = .int .i64 k ∧ OwnM wr w.heap.size k (l.take k) ∧ Below w.heap.size w wr) (fun i _ => n - (intOf i).toNat)
  case atStart => exact ⟨0, Nat.zero_le _, rfl, World.ownsMap_made _ _ _ _, (Below.refl _ _).alloc (Nat.le_refl _) _⟩
  case round =>
    obtain ⟨k, hk, rfl, hown, hb⟩ := hrel
    by_cases hlt : k < n
    · obtain ⟨b, o, rfl, hlt0, hc⟩ := HR.out (by omega)
      have hkl : k < l.length := by have := HN.out; omega
      have hc0 := (hb.cell (p := ⟨b, o + k, none⟩) hlt0).trans (hc k hkl)
      have hx := HM.out l[k] (List.getElem_mem hkl)
      have HS : Hid ((wM (l.take (k + 1)) : DataW Unit) = (wM (l.take k)).put (keyL l[k]) (.lit (.int .i64 (k : Int)))) := by
        show _ = _
        rw [List.take_succ_eq_append_getElem hkl, wM_snoc, List.length_take, Nat.min_eq_left (by omega)]
      have hkey : keyOf Try.prog 9 (.string l[k]) = some (keyL l[k]) := WideMaps.keyOf_string_mk Try.underlying9 (by unfold maxLen; omega)
      have hwf : (Lit.int .i64 (k : Int)).wf = true := WalkArith.wf_i64 (by omega)
      have hk0 : (0 : Int) ≤ (k : Int) := by omega
      have hk1 : (k : Int) < (n : Int) := by omega
      have HK := Lib.hid hkey
      have HWF := Lib.hid hwf
      have HOWN := Lib.hid hown
      have HB := Lib.hid hb
      clear hc hx hkey hwf hown hb
      generalize l[k] = x at *
      go_wp2_with (at_mapUpdate; refine wpList_mapUpdate_own _ rfl _ _ _ 76 rfl 9 2 lawStr Try.underlying76 _ w.heap.size k _ rfl HOWN.out (by unfold maxLen; omega) _ _ _ rfl rfl HK.out _ [] (plainElem_int Try.underlying2 HWF.out) ?_; intro w1 hown1 hgrow1)
      have HO1 : Hid (OwnM w1 w.heap.size (k + 1) (l.take (k + 1))) := by show OwnM _ _ _ _; unfold OwnM; rw [HS.out]; exact hown1
      have HB1 := Lib.hid (HB.out.grown hgrow1 HB.out.size (fun j hj => by cases hj; exact Nat.le_refl _))
      clear hown1 hgrow1
      go_wp2_with fail
      go_roundw
      case rel => exact ⟨k + 1, by omega, by go_num, HO1.out, HB1.out⟩
      case measure => simp [intOf]; omega
    · obtain rfl : k = n := by omega
      have HO : Hid (OwnM wr w.heap.size k l) := by show OwnM _ _ _ _; rw [List.take_of_length_le (by have := HN.out; omega)] at hown; exact hown
      have HB := Lib.hid hb
      clear hown hb
      go_wp2_with fail
      go_ret
      exact ⟨rfl, HO.out, HB.out⟩
end Go.Proofs.Ytijmfienaoeboaa
