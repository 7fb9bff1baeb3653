/- Keys: what FnKeys asks of what the functions answer, plain. -/
import Derived.Test.YtcihogbkfpcfjabKeP
import Derived.Test.YtcihogbkfpcfjabWst
import Derived.Test.YtcihogbkfpcfjabLsm
namespace Go.Proofs.Ytcihogbkfpcfjab
set_option linter.unusedVariables false
open Go Go.RowKit

theorem sc_facts {l : List Int} {s : List UInt8} (h : scOk l s = true) : tpOk l = true ∧ inR 48 49 s = true ∧ bitsN (stQ s) ∧ ((stQ s).length : Int) = wid l := by
  obtain ⟨h1, h2, h3⟩ := scOk_parts h
  obtain ⟨h4, h5⟩ := isB_r h2
  exact ⟨h1, h5, stQ_bits h5, by rw [stQ_len]; exact h3⟩
/-- The state is found again. -/
theorem found_key {l : List Int} {s g : List UInt8} (h : scOk l s = true) (hg : isB g = true) (hw : wid l ≤ (g.length : Int)) : fkIn l (adL l s g) g = true ∧ tx (fkS l (adL l s g) g) = s := by
  obtain ⟨ht, hs, hq, hl⟩ := sc_facts h
  obtain ⟨h400, hgr⟩ := isB_r hg
  have hkl := kb_len (l := l) hq g.length
  have hkb := kb_bits (l := l) hq g.length
  have hx := xor_key hgr hkb hkl
  have hal : (adL l s g).length = g.length := by unfold adL; rw [tx_len, mx_len, hkl]
  have har : inR 48 49 (adL l s g) = true := tx_inR (mx_bits hkb (gb_bits hgr) _)
  have hab : isB (adL l s g) = true := by unfold isB; rw [hal, decide_eq_true h400, har]; rfl
  have hin : fkIn l (adL l s g) g = true := by
    unfold fkIn xorOk
    rw [ht, hab, hg, hal, decide_eq_true hw]; simp
  refine ⟨hin, ?_⟩
  have hK : fkK (adL l s g) g = tx (kb l (stQ s) g.length) := by
    unfold fkK
    have := (xorB_turn har hgr (tx_inR hkb) hal (by rw [tx_len, hkl, hal])).1 (by rw [hal]; exact hx)
    exact this.symm
  have hW : fkW l = (stQ s).length := by unfold fkW; omega
  have hM : fkM l (adL l s g) g = kb l (stQ s) (stQ s).length := by
    unfold fkM
    rw [hK, gb_tx hkb, hW, kb_take hq _ _ (by omega)]
  unfold fkS
  rw [hM, hW, bst_key ht hq hl, stQ_gb, List.reverse_reverse, tx_gb hs]
theorem found_ok {l : List Int} {s g : List UInt8} (h : scOk l s = true) (hg : isB g = true) (hw : wid l ≤ (g.length : Int)) : fkOk l (adL l s g) g = true ∧ fkV l (adL l s g) g = ⟨s.toArray⟩ := by
  obtain ⟨h1, h2⟩ := found_key h hg hw
  have h3 : fkOk l (adL l s g) g = true := by
    unfold fkOk
    rw [h1, decide_eq_true ((fk_test h1).1 (by rw [h2]))]; rfl
  exact ⟨h3, by unfold fkV; rw [h3, h2]; rfl⟩
theorem zs20 : gb (zsT 20) = List.replicate 20 0 := by decide
theorem lsV20 : lsV (zsT 20) = 20 := by decide +kernel
/-- The worst bits are scrambled to bits 0. -/
theorem worst_zero {l : List Int} {s : List UInt8} (h : scOk l s = true) : wbOk l s 20 = true ∧ scbOk l s (scbL true l s (zsT 20)) = true ∧ scbL false l s (scbL true l s (zsT 20)) = zsT 20 := by
  obtain ⟨ht, hs, hq, hl⟩ := sc_facts h
  have hok := scF_ok true l (stQ s) hq (List.replicate 20 0) (zsN_bits 20)
  have e1 : scbL true l s (zsT 20) = tx (scF true l (stQ s) (List.replicate 20 0)).2 := by unfold scbL; rw [zs20]
  have e2 := sc_back l (stQ s) (List.replicate 20 0)
  refine ⟨by unfold wbOk; rw [h]; decide, ?_, ?_⟩
  · unfold scbOk isB
    rw [h, e1, tx_inR hok.2.1, tx_len, hok.2.2.2]
    decide
  · rw [e1]
    unfold scbL
    rw [gb_tx hok.2.1, e2.2]
    exact zsT_tx 20
/-- The key as bytes. -/
def kyB (l : List Int) (s : List UInt8) : ByteArray := ⟨(tx (kb l (stQ s) 300)).toArray⟩
theorem kyB_size {l : List Int} {s : List UInt8} (h : scOk l s = true) : (kyB l s).size = 300 := by
  obtain ⟨ht, hs, hq, hl⟩ := sc_facts h
  show (tx (kb l (stQ s) 300)).toArray.size = 300
  rw [List.size_toArray, tx_len, kb_len hq]
theorem kyB_at {l : List Int} {s : List UInt8} (h : scOk l s = true) (i : Nat) (hi : i < (kyB l s).size) : (((kyB l s)[i]).toNat : Int) = 48 + (kbit l (stQ s) i : Int) := by
  obtain ⟨ht, hs, hq, hl⟩ := sc_facts h
  have h300 := kyB_size h
  have hk := kb_len (l := l) hq 300
  have e : (kyB l s)[i] = (tx (kb l (stQ s) 300))[i]'(by rw [tx_len, hk]; omega) := rfl
  have hg := kb_get ht hq hl 300 i (by omega)
  rw [List.getD, List.getElem?_eq_getElem (by omega)] at hg
  have hg : (kb l (stQ s) 300)[i]'(by omega) = kbit l (stQ s) i := hg
  rw [e, tx_get _ i _ (by omega), hg, tx_byte]
  unfold kbit
  exact sm_le (wn_ok hq (by have := (tpOk_wid ht).1; omega) i).1 l
/-- The key repeats with its period. -/
theorem key_period {l : List Int} {s : List UInt8} (h : scOk l s = true) (i : Nat) : kbit l (stQ s) (i + kpN l (stQ s)) = kbit l (stQ s) i := by
  obtain ⟨ht, hs, hq, hl⟩ := sc_facts h
  exact kbit_on (kpN_ok ht hq hl).2.2.1 i
/-- With no lesser one. -/
theorem key_less {l : List Int} {s : List UInt8} (h : scOk l s = true) (d n : Nat) (h1 : 1 ≤ d) (hd : d < kpN l (stQ s)) (hn : wid l ≤ (n : Int)) : ∃ i, i < n ∧ kbit l (stQ s) i ≠ kbit l (stQ s) (i + d) := by
  obtain ⟨ht, hs, hq, hl⟩ := sc_facts h
  refine Classical.byContradiction fun hne => ?_
  have hall : ∀ i, i < (stQ s).length → kbit l (stQ s) i = kbit l (stQ s) (i + d) := fun i hi => Classical.byContradiction fun e => hne ⟨i, by omega, e⟩
  exact (kpN_ok ht hq hl).2.2.2 d h1 hd (wn_same ht hq hl d hall)
/-- Whether the first bits are the same at a distance. -/
def smK (l : List Int) (s : List UInt8) (d : Nat) : Nat → Bool
  | 0 => true
  | k + 1 => smK l s d k && decide (kbit l (stQ s) k = kbit l (stQ s) (k + d))
theorem smK_no {l : List Int} {s : List UInt8} {d i : Nat} (h : kbit l (stQ s) i ≠ kbit l (stQ s) (i + d)) : ∀ n, i < n → smK l s d n = false
  | 0, hn => by omega
  | n + 1, hn => by
    by_cases e : i = n
    · subst e; unfold smK; rw [decide_eq_false h]; simp
    · unfold smK; rw [smK_no h n (by omega)]; rfl
end Go.Proofs.Ytcihogbkfpcfjab
