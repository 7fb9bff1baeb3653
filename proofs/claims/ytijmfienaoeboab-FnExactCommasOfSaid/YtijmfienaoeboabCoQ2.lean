/- Plain: the marks of all windows of words that follow one another. -/
import Derived.Test.YtijmfienaoeboabCoP2
import Derived.Test.YtijmfienaoeboabNum
namespace Go.Proofs.Ytijmfienaoeboab
open Go Go.RowKit
set_option linter.unusedVariables false

theorem dg_half (n : Int) (i : Nat) : dg n (i + 1) = dg (n / 2) i := by
  unfold dg
  rw [Int.ediv_ediv_of_nonneg (by decide), Int.pow_succ, Int.mul_comm]
theorem digs_half (n : Int) (L : Nat) : digs n (L + 1) (L + 1) = digs (n / 2) L L ++ [dg n 0] := by
  rw [digs_succ]
  congr 1
  · unfold digs
    apply List.map_congr_left
    intro j hj
    have := List.mem_range.1 hj
    rw [show L + 1 - 1 - j = (L - 1 - j) + 1 from by omega, dg_half]
  · rw [show L + 1 - 1 - L = 0 from by omega]
theorem digs_val : ∀ (L : Nat) (l : List UInt8), l.length = L → inR 48 49 l = true → digs (valN l) L L = l
  | 0, l, h, _ => by
    have : l = [] := List.length_eq_zero_iff.1 h
    subst this; rfl
  | L + 1, l, h, hb => by
    obtain ⟨l', c, e⟩ : ∃ l' c, l = l' ++ [c] := by
      have hne : l ≠ [] := by intro e; rw [e] at h; simp at h
      exact ⟨l.dropLast, l.getLast hne, (List.dropLast_concat_getLast hne).symm⟩
    subst e
    have hl' : l'.length = L := by simpa using h
    have hb' : inR 48 49 l' = true ∧ 48 ≤ (c.toNat : Int) ∧ (c.toNat : Int) ≤ 49 := by
      unfold inR at hb ⊢
      rw [List.all_append, Bool.and_eq_true] at hb
      refine ⟨hb.1, ?_⟩
      have := hb.2
      simp at this
      omega
    have ih := digs_val L l' hl' hb'.1
    have hv := valN_snoc l' c
    rw [digs_half, hv]
    have e1 : (2 * valN l' + ((c.toNat : Int) - 48)) / 2 = valN l' := by omega
    rw [e1, ih]
    congr 2
    apply UInt8.toNat_inj.1
    have h2 := dg_val (2 * valN l' + ((c.toNat : Int) - 48)) 0
    rw [Int.pow_zero, Int.ediv_one] at h2
    omega
theorem val_digs2 : ∀ (L : Nat) (x : Int), 0 ≤ x → x < 2 ^ L → valN (digs x L L) = x
  | 0, x, h0, h1 => by
    rw [Int.pow_zero] at h1
    have : x = 0 := by omega
    subst this; rfl
  | L + 1, x, h0, h1 => by
    rw [digs_half, valN_snoc, val_digs2 L (x / 2) (by omega) (by rw [Int.pow_succ] at h1; omega)]
    have h2 := dg_val x 0
    rw [Int.pow_zero, Int.ediv_one] at h2
    omega

/-- The number of a window; the marks of two words, of a word, of a state, of all. -/
def winV (L a : Nat) (b : List UInt8) : Nat := (valN ((b.drop a).take L)).toNat
def wz (W L : Nat) (y z : ByteArray) : List Nat := (List.range (2 * W + 1 - L)).map fun a => winV L a (y.data.toList ++ z.data.toList)
def wy (m p : List ByteArray) (W L : Nat) (s : Int) (y : ByteArray) : List Nat := (wl m p (nxS s y)).flatMap (wz W L y)
def wsA (m p : List ByteArray) (W L : Nat) (s : Int) : List Nat := (wl m p s).flatMap (wy m p W L s)
def marks (m p : List ByteArray) (W L : Nat) : List Nat := wsA m p W L (-1) ++ wsA m p W L 1
theorem flat_take {α β : Type} (f : α → List β) (l : List α) (k : Nat) (h : k < l.length) : (l.take (k + 1)).flatMap f = (l.take k).flatMap f ++ f l[k] := by
  rw [List.take_succ_eq_append_getElem h, List.flatMap_append]; simp
theorem mem_marks {m p : List ByteArray} {W L i : Nat} : i ∈ marks m p W L ↔ ∃ s y z a, (s = -1 ∨ s = 1) ∧ y ∈ wl m p s ∧ z ∈ wl m p (nxS s y) ∧ a < 2 * W + 1 - L ∧ winV L a (y.data.toList ++ z.data.toList) = i := by
  unfold marks wsA wy wz
  simp only [List.mem_append, List.mem_flatMap, List.mem_map, List.mem_range]
  constructor
  · rintro (⟨y, hy, z, hz, a, ha, e⟩ | ⟨y, hy, z, hz, a, ha, e⟩)
    · exact ⟨-1, y, z, a, .inl rfl, hy, hz, ha, e⟩
    · exact ⟨1, y, z, a, .inr rfl, hy, hz, ha, e⟩
  · rintro ⟨s, y, z, a, rfl | rfl, hy, hz, ha, e⟩
    · exact .inl ⟨y, hy, z, hz, a, ha, e⟩
    · exact .inr ⟨y, hy, z, hz, a, ha, e⟩
theorem wl_ok {d wd : Int} {m p : List ByteArray} (h : bcOk d wd m p = true) {s : Int} {y : ByteArray} (hy : y ∈ wl m p s) : inR 48 49 y.data.toList = true ∧ (y.size : Int) = wd ∧ y.size ≤ 12 := by
  obtain ⟨h12, om, op⟩ := bcOk_parts h
  unfold wl at hy
  split at hy
  · have h1 := wordOk_parts (om y hy); have h2 := wordOk_bits (om y hy) h12
    exact ⟨h2.1, h1.2.1, h2.2⟩
  · have h1 := wordOk_parts (op y hy); have h2 := wordOk_bits (op y hy) h12
    exact ⟨h2.1, h1.2.1, h2.2⟩
theorem inR_app {a b : List UInt8} (ha : inR 48 49 a = true) (hb : inR 48 49 b = true) : inR 48 49 (a ++ b) = true := by
  unfold inR at *; rw [List.all_append, ha, hb]; rfl
theorem inR_dt {a : List UInt8} (ha : inR 48 49 a = true) (i k : Nat) : inR 48 49 ((a.drop i).take k) = true := by
  unfold inR at *
  rw [List.all_eq_true] at *
  exact fun x hx => ha x (List.mem_of_mem_drop (List.mem_of_mem_take hx))
theorem marks_iff {d : Int} {W L i : Nat} {m p : List ByteArray} (h : bcOk d (W : Int) m p = true) (hL : 1 ≤ L) (hL8 : L ≤ 8) (hW : L ≤ W + 1) (hi : i < 2 ^ L) : i ∈ marks m p W L ↔ mcB m p (coW L i).data.toList = true := by
  have hpat : (coW L i).data.toList = digs (i : Int) L L := by unfold coW; simp
  have hpl : (digs (i : Int) L L).length = L := digs_length _ _ _
  have hW2 := (bcOk_nums h).1
  rw [mem_marks, mcB_iff, hpat]
  constructor
  · rintro ⟨s, y, z, a, hs, hy, hz, ha, e⟩
    obtain ⟨y1, y2, y3⟩ := wl_ok h hy
    obtain ⟨z1, z2, z3⟩ := wl_ok h hz
    have hlen : (y.data.toList ++ z.data.toList).length = 2 * W := by rw [List.length_append]; simp; omega
    refine ⟨s, y, hs, hy, ?_⟩
    unfold moB
    rw [List.any_eq_true]
    refine ⟨z, hz, (atB_iff _ _).2 ⟨a, by omega, ?_⟩⟩
    have hwl : (((y.data.toList ++ z.data.toList).drop a).take L).length = L := by rw [List.length_take, List.length_drop]; omega
    have hwb := inR_dt (inR_app y1 z1) a L
    have hv := digs_val L _ hwl hwb
    have hb := valN_bd L _ hwl hwb
    unfold winV at e
    have e' : valN (((y.data.toList ++ z.data.toList).drop a).take L) = (i : Int) := by omega
    rw [e'] at hv
    rw [hv]
    exact List.take_prefix _ _
  · rintro ⟨s, y, hs, hy, ho⟩
    unfold moB at ho
    rw [List.any_eq_true] at ho
    obtain ⟨z, hz, ho⟩ := ho
    obtain ⟨a, ha, hp⟩ := (atB_iff _ _).1 ho
    obtain ⟨y1, y2, y3⟩ := wl_ok h hy
    obtain ⟨z1, z2, z3⟩ := wl_ok h hz
    have hlen : (y.data.toList ++ z.data.toList).length = 2 * W := by rw [List.length_append]; simp; omega
    have h1 := hp.length_le
    rw [hpl, List.length_drop] at h1
    refine ⟨s, y, z, a, hs, hy, hz, by omega, ?_⟩
    have h2 := List.prefix_iff_eq_take.1 hp
    rw [hpl] at h2
    unfold winV
    rw [← h2, val_digs2 L (i : Int) (by omega) (by exact_mod_cast hi)]
    simp
/-- What stands in the row of marks. -/
def seenC (S : List Nat) (N : Nat) : List Value := (List.range N).map fun i => Value.bool (decide (i ∈ S))
theorem seenC_len (S : List Nat) (N : Nat) : (seenC S N).length = N := by simp [seenC]
theorem seenC_nil (N : Nat) : seenC [] N = List.replicate N (Value.bool false) := by
  unfold seenC
  rw [List.eq_replicate_iff]
  refine ⟨by simp, ?_⟩
  intro b hb
  obtain ⟨i, -, e⟩ := List.mem_map.1 hb
  rw [← e]; simp
theorem seenC_set (S : List Nat) (N x : Nat) (hx : x < N) : (seenC S N).set x (.bool true) = seenC (S ++ [x]) N := by
  unfold seenC
  apply List.ext_getElem (by simp)
  intro i h1 h2
  rw [List.getElem_set]
  by_cases e : x = i
  · subst e; simp
  · rw [if_neg e]; simp [Ne.symm e]
theorem seenC_at (S : List Nat) (N i : Nat) (hi : i < N) : (seenC S N)[i]? = some (.bool (decide (i ∈ S))) := by simp [seenC, hi]
end Go.Proofs.Ytijmfienaoeboab
