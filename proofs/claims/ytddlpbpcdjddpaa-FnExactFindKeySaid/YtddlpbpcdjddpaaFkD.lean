/- What FindKey answers (plain). -/
import Derived.Test.YtddlpbpcdjddpaaFkP
import Derived.Test.YtddlpbpcdjddpaaAds
namespace Go.Proofs.Ytddlpbpcdjddpaa
set_option linter.unusedVariables false
open Go Go.RowKit
theorem inR_two {g : List UInt8} (hg : inR 48 49 g = true) (i : Nat) (h : i < g.length) : g[i] = 48 ∨ g[i] = 49 := by
  have hy := of_decide_eq_true (List.all_eq_true.1 hg g[i] (List.getElem_mem h))
  have : g[i].toNat = 48 ∨ g[i].toNat = 49 := by omega
  rcases this with h | h
  · exact .inl (UInt8.toNat_inj.1 h)
  · exact .inr (UInt8.toNat_inj.1 h)
theorem tx_gb {g : List UInt8} (hg : inR 48 49 g = true) : tx (gb g) = g := by
  apply List.ext_getElem
  · rw [tx_len, gb_len]
  · intro i h1 h2
    rw [tx_get (gb g) i h1 (by rw [gb_len]; exact h2)]
    simp only [gb, List.getElem_map]
    rcases inR_two hg i h2 with e | e <;> rw [e] <;> rfl
theorem gb_tx {M : List Nat} (h : bitsN M) : gb (tx M) = M := by
  apply List.ext_getElem
  · rw [gb_len, tx_len]
  · intro i h1 h2
    have hk := h M[i] (List.getElem_mem h2)
    have : M[i] = 0 ∨ M[i] = 1 := by omega
    simp only [gb, tx, List.getElem_map]
    rcases this with e | e <;> rw [e] <;> rfl
theorem stQ_gb (s : List UInt8) : stQ s = (gb s).reverse := by simp [stQ, gb]
theorem stQ_tx {M : List Nat} (h : bitsN M) : stQ (tx M) = M.reverse := by rw [stQ_gb, gb_tx h]
theorem xorB_inR (a b : List UInt8) (n : Nat) : inR 48 49 (xorB a b n) = true := by
  unfold inR
  rw [List.all_eq_true]
  intro x hx
  obtain ⟨j, -, rfl⟩ := List.mem_map.1 hx
  by_cases h : a[j]? = b[j]?
  · rw [if_pos h]; decide
  · rw [if_neg h]; decide
theorem xorB_turn {a b K : List UInt8} (ha : inR 48 49 a = true) (hb : inR 48 49 b = true) (hK : inR 48 49 K = true) (hab : a.length = b.length) (hl : K.length = a.length) :
    xorB b K a.length = a ↔ K = xorB a b a.length := by
  have key : ∀ i (h1 : i < a.length), (if b[i]? = K[i]? then (48 : UInt8) else 49) = a[i] ↔ K[i]'(by omega) = if a[i]? = b[i]? then 48 else 49 := by
    intro i h1
    rw [List.getElem?_eq_getElem h1, List.getElem?_eq_getElem (show i < b.length by omega), List.getElem?_eq_getElem (show i < K.length by omega)]
    simp only [Option.some.injEq]
    rcases inR_two ha i h1 with e | e <;> rcases inR_two hb i (by omega) with f | f <;> rcases inR_two hK i (by omega) with g | g <;> rw [e, f, g] <;> decide
  constructor
  · intro h
    refine List.ext_getElem (by rw [xorB_length, hl]) fun i h1 h2 => ?_
    have hi : i < a.length := by omega
    have e1 : (xorB b K a.length)[i]'(by rw [xorB_length]; exact hi) = a[i] := by simp only [h]
    simp only [xorB, List.getElem_map, List.getElem_range] at e1 ⊢
    exact (key i hi).1 e1
  · intro h
    refine List.ext_getElem (by rw [xorB_length]) fun i h1 h2 => ?_
    have e1 : K[i]'(by omega) = (xorB a b a.length)[i]'(by rw [xorB_length]; exact h2) := by simp only [← h]
    simp only [xorB, List.getElem_map, List.getElem_range] at e1 ⊢
    exact (key i h2).2 e1
/-- The key between two texts; the state behind it. -/
def fkK (a b : List UInt8) : List UInt8 := xorB a b a.length
def fkW (l : List Int) : Nat := (wid l).toNat
def fkM (l : List Int) (a b : List UInt8) : List Nat := (gb (fkK a b)).take (fkW l)
def fkS (l : List Int) (a b : List UInt8) : List Nat := bst l (fkM l a b) (fkW l)
def fkIn (l : List Int) (a b : List UInt8) : Bool := tpOk l && (xorOk a b && decide (wid l ≤ (a.length : Int)))
/-- The bits of the key behind the state that was found. -/
def fkG (l : List Int) (a b : List UInt8) : List UInt8 := tx (kb l (stQ (tx (fkS l a b))) a.length)
def fkOk (l : List Int) (a b : List UInt8) : Bool := fkIn l a b && decide (fkG l a b = fkK a b)
def fkV (l : List Int) (a b : List UInt8) : ByteArray := if fkOk l a b then ⟨(tx (fkS l a b)).toArray⟩ else ⟨#[]⟩
theorem fkIn_parts {l : List Int} {a b : List UInt8} (h : fkIn l a b = true) : tpOk l = true ∧ isB a = true ∧ isB b = true ∧ a.length = b.length ∧ wid l ≤ (a.length : Int) := by
  unfold fkIn xorOk at h
  simp only [Bool.and_eq_true, decide_eq_true_eq] at h
  exact ⟨h.1, h.2.1.1.1, h.2.1.1.2, h.2.1.2, h.2.2⟩
theorem fk_facts {l : List Int} {a b : List UInt8} (h : fkIn l a b = true) :
    (fkM l a b).length = fkW l ∧ bitsN (fkM l a b) ∧ (fkS l a b).length = fkW l ∧ bitsN (fkS l a b) ∧ scOk l (tx (fkS l a b)) = true ∧
      (fkK a b).length = a.length ∧ inR 48 49 (fkK a b) = true ∧ (fkW l : Int) = wid l ∧ 1 ≤ fkW l ∧ fkW l ≤ 16 ∧ fkW l ≤ a.length ∧ a.length ≤ 400 := by
  obtain ⟨h1, h2, h3, h4, h5⟩ := fkIn_parts h
  have hw := tpOk_wid h1
  have hn := (isB_r h2).1
  have hW : (fkW l : Int) = wid l := by unfold fkW; omega
  have hKl : (fkK a b).length = a.length := xorB_length _ _ _
  have hKr : inR 48 49 (fkK a b) = true := xorB_inR _ _ _
  have hM : bitsN (fkM l a b) := fun x hx => gb_bits hKr x (List.mem_of_mem_take hx)
  have hMl : (fkM l a b).length = fkW l := by unfold fkM; rw [List.length_take, gb_len, hKl]; omega
  have hS : bitsN (fkS l a b) := bst_bits hM _
  have hSl : (fkS l a b).length = fkW l := bst_len _ _ _
  refine ⟨hMl, hM, hSl, hS, ?_, hKl, hKr, hW, by omega, by omega, by omega, hn⟩
  unfold scOk isB
  rw [h1, tx_inR hS, tx_len, hSl, hW, decide_eq_true (show fkW l ≤ 400 by omega)]
  simp
/-- What the program's first KeyBits answers. -/
theorem fk_first {l : List Int} {a b : List UInt8} (h : fkIn l a b = true) :
    kyOk (trn l) ((fkK a b).take (fkW l)) (wid l) = true ∧ kyL (trn l) ((fkK a b).take (fkW l)) (wid l) = tx (fkS l a b) := by
  obtain ⟨h1, -⟩ := fkIn_parts h
  obtain ⟨m1, m2, m3, m4, m5, m6, m7, m8, m9, m10, m11, m12⟩ := fk_facts h
  have hr : inR 48 49 ((fkK a b).take (fkW l)) = true := by
    unfold inR
    rw [List.all_eq_true]
    intro x hx
    exact List.all_eq_true.1 m7 x (List.mem_of_mem_take hx)
  have hlen : ((fkK a b).take (fkW l)).length = fkW l := by rw [List.length_take, m6]; omega
  constructor
  · unfold kyOk scOk isB
    rw [(trn_ok h1).1, (trn_ok h1).2, hr, hlen, decide_eq_true (show fkW l ≤ 400 by omega), decide_eq_true m8, decide_eq_true (show (0 : Int) ≤ wid l ∧ wid l ≤ 400 by omega)]
    rfl
  · unfold kyL
    have e : gb ((fkK a b).take (fkW l)) = fkM l a b := by unfold gb fkM gb; rw [List.map_take]
    rw [stQ_gb, e, kb_turn h1 (by rw [m1]; omega)]
    rfl
/-- The model's test is the program's. -/
theorem fk_test {l : List Int} {a b : List UInt8} (h : fkIn l a b = true) : (adL l (tx (fkS l a b)) b = a) ↔ fkG l a b = fkK a b := by
  obtain ⟨h1, h2, h3, h4, h5⟩ := fkIn_parts h
  obtain ⟨m1, m2, m3, m4, m5, m6, m7, m8, m9, m10, m11, m12⟩ := fk_facts h
  have hQ : bitsN (stQ (tx (fkS l a b))) := stQ_bits (isB_r (scOk_parts m5).2.1).2
  have hkl := kb_len (l := l) hQ a.length
  have hkb := kb_bits (l := l) hQ a.length
  unfold adL fkG fkK
  rw [← h4, ← xorB_turn (isB_r h2).2 (isB_r h3).2 (tx_inR hkb) h4 (by rw [tx_len, hkl])]
  have := xor_key (g := b) (isB_r h3).2 hkb (by rw [hkl, h4])
  rw [← h4] at this
  rw [this]
end Go.Proofs.Ytddlpbpcdjddpaa
