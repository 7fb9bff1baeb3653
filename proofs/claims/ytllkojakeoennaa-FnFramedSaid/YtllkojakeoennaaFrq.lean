/- All that FnFramed asks, plain; rows that are read as bytes. -/
import Derived.Test.YtllkojakeoennaaDfq
import Derived.Test.YtllkojakeoennaaR8c
import Derived.Test.YtllkojakeoennaaDfi
namespace Go.Proofs.Ytllkojakeoennaa
open Go Go.RowKit
set_option linter.unusedVariables false

theorem dg_in {b : Int} (h : 0 ≤ b ∧ b ≤ 1) : inR 48 49 [dB b] = true ∧ inR 48 49 [oB b] = true ∧ oB b ≠ dB b := by
  rcases dg_of h with ⟨-, h1, h2⟩ | ⟨-, h1, h2⟩ <;> rw [h1, h2] <;> decide
theorem inR_stF {a : Nat} {d o : UInt8} (hd : inR 48 49 [d] = true) (ho : inR 48 49 [o] = true) (l : List UInt8) (h : inR 48 49 l = true) : inR 48 49 (stF a d o l).1 = true := by
  induction l using snocInd with
  | nil => rfl
  | snoc l x ih =>
    rw [inR_append, Bool.and_eq_true_iff] at h
    rw [stF_snoc]
    unfold stStep
    split
    · split
      · rw [show (stF a d o l).1 ++ [x, o] = ((stF a d o l).1 ++ [x]) ++ [o] from by simp, inR_append, inR_append, ih h.1, h.2, ho]; rfl
      · rw [inR_append, ih h.1, h.2]; rfl
    · rw [inR_append, ih h.1, h.2]; rfl
theorem inR_rep {d : UInt8} (hd : inR 48 49 [d] = true) : ∀ k, inR 48 49 (List.replicate k d) = true
  | 0 => rfl
  | k + 1 => by rw [List.replicate_succ, show d :: List.replicate k d = [d] ++ List.replicate k d from rfl, inR_append, hd, inR_rep hd k]; rfl
theorem inR_flL {a : Nat} {d o : UInt8} (hd : inR 48 49 [d] = true) (ho : inR 48 49 [o] = true) : inR 48 49 (flL a d o) = true := by
  unfold flL; rw [inR_append, inR_append, ho, inR_rep hd]; rfl
theorem inR_frT {a : Nat} {d o : UInt8} (hd : inR 48 49 [d] = true) (ho : inR 48 49 [o] = true) : ∀ fs : List ByteArray, (∀ f ∈ fs, inR 48 49 f.data.toList = true) → inR 48 49 (frT a d o fs) = true
  | [], _ => rfl
  | f :: fs, h => by
    have e : frT a d o (f :: fs) = (stF a d o f.data.toList).1 ++ (flL a d o ++ frT a d o fs) := by simp [frT]
    rw [e, inR_append, inR_append, inR_stF hd ho _ (h f List.mem_cons_self), inR_flL hd ho, inR_frT hd ho fs (fun g hg => h g (List.mem_cons_of_mem _ hg))]; rfl
/-- A frame as the law draws it. -/
def goodF (f : ByteArray) : Prop := f.data.toList ≠ [] ∧ inR 48 49 f.data.toList = true ∧ f.data.toList.length ≤ 13
theorem goodF_of (L : List UInt8) (h1 : L.length ≤ 12) (h2 : inR 48 49 L = true) : goodF (⟨L.toArray⟩ ++ ⟨#[49]⟩) := by
  have e : (⟨L.toArray⟩ ++ ⟨#[49]⟩ : ByteArray).data.toList = L ++ [49] := by simp
  unfold goodF
  rw [e]
  refine ⟨by simp, ?_, by simp; omega⟩
  rw [inR_append, h2]; rfl
def bsL (a b : Int) (fs : List ByteArray) : List UInt8 := flG a b ++ frT a.toNat (dB b) (oB b) fs
theorem framed_all {a b : Int} (h : (1 ≤ a ∧ a ≤ 5) ∧ (0 ≤ b ∧ b ≤ 1)) {fs : List ByteArray} (h0 : 0 < fs.length) (h4 : fs.length ≤ 4) (hg : ∀ f ∈ fs, goodF f) {L : List UInt8} (hl : L.length ≤ 9) (hi : inR 48 49 L = true) :
    ((fbOk a b fs = true ∧ fbV a b fs = ⟨(bsL a b fs).toArray⟩) ∧ (dfOk a b (bsL a b fs) = true ∧ dfV a b (bsL a b fs) = fs) ∧ (stOk a b L = true ∧ stV a b L = ⟨(stL a b L).toArray⟩) ∧ (dfOk a b (stL a b L ++ bsL a b fs) = true ∧ dfV a b (stL a b L ++ bsL a b fs) = fs) ∧ (dfOk a b (stL a b L) = true ∧ dfV a b (stL a b L) = [])) ∧ (bsL a b fs).length ≤ 200 ∧ (stL a b L).length ≤ 18 := by
  obtain ⟨i1, i2, hdo⟩ := dg_in h.2
  have hs : sOk a b = true := decide_eq_true ⟨⟨h.1.1, by omega⟩, h.2⟩
  have ha : 1 ≤ a.toNat := by omega
  have hF := flG_len a b
  have hFe : flG a b = flL a.toNat (dB b) (oB b) := rfl
  have hT := frT_len (a := a.toNat) (d := dB b) (o := oB b) (c := 13) fs (fun f hf => (hg f hf).2.2)
  have hT2 : (frT a.toNat (dB b) (oB b) fs).length ≤ 4 * (2 * 13 + (5 + 3)) := Nat.le_trans hT (Nat.mul_le_mul h4 (by omega))
  have hS := (stF_len a.toNat (dB b) (oB b) L).2
  have hSl : (stL a b L).length ≤ 18 := by unfold stL; omega
  have hBl : (bsL a b fs).length ≤ 200 := by unfold bsL; rw [List.length_append]; omega
  have iB : inR 48 49 (bsL a b fs) = true := by unfold bsL; rw [inR_append, hFe, inR_flL i1 i2, inR_frT i1 i2 fs (fun f hf => (hg f hf).2.1)]; rfl
  have iS : inR 48 49 (stL a b L) = true := inR_stF i1 i2 L hi
  obtain ⟨-, -, hrn⟩ := st_back hdo ha L
  have hne : ∀ f ∈ fs, f.data.toList ≠ [] := fun f hf => (hg f hf).1
  have b1 : isB (bsL a b fs) = true := isB_of (by omega) iB
  have b2 : isB (stL a b L) = true := isB_of (by omega) iS
  have b3 : isB (stL a b L ++ bsL a b fs) = true := isB_of (by rw [List.length_append]; omega) (by rw [inR_append, iS, iB]; rfl)
  have b4 : isB L = true := isB_of (by omega) hi
  have d1 : dfOk a b (bsL a b fs) = true := by unfold dfOk; rw [hs, b1]; rfl
  have d2 : dfOk a b (stL a b L) = true := by unfold dfOk; rw [hs, b2]; rfl
  have d3 : dfOk a b (stL a b L ++ bsL a b fs) = true := by unfold dfOk; rw [hs, b3]; rfl
  have s1 : stOk a b L = true := by unfold stOk; rw [hs, b4, decide_eq_true (by omega)]; rfl
  refine ⟨⟨?_, ⟨d1, ?_⟩, ⟨s1, ?_⟩, ⟨d3, ?_⟩, ⟨d2, ?_⟩⟩, hBl, hSl⟩
  · exact fb_some hs h0 (frF_frames a b fs (fun f hf => isB_of (by have := (hg f hf).2.2; omega) (hg f hf).2.1) (by have := hBl; unfold bsL at this; omega))
  · rw [dfV_yes d1, hFe]
    exact dfG_junk hdo ha (S := []) (Nat.zero_le _) fs hne
  · unfold stV; rw [if_pos s1]
  · rw [dfV_yes d3, hFe]
    exact dfG_junk hdo ha hrn fs hne
  · rw [dfV_yes d2, hFe]
    exact dfG_stop (index_no_flag hrn)
/-- A row of the call's own reads as its values. -/
theorem own_rdv {w : World} {base n : Nat} {e : TypeId} {v : Value} {xs : List Value} (h : w.ownsRow base e 1 v n xs) : RdV (· < w.heap.size) w v xs := by
  have hl := ownt_len h
  have hx := h.1
  rcases h.2 with ⟨rfl, h0⟩ | ⟨g, cap, cur, rfl, h1, hg, h2, h3, h4, h5⟩
  · exact ⟨none, 0, 0, rfl, by omega, Nat.le_refl _, Nat.zero_le _, fun h => by omega⟩
  · have hlt : g < w.heap.size := by
      rcases Nat.lt_or_ge g w.heap.size with h' | h'
      · exact h'
      · rw [Array.getElem?_eq_none h'] at hg; cases hg
    refine ⟨_, _, _, rfl, by omega, h2, hl, fun _ => ⟨g, 0, rfl, hlt, hlt, fun i x hi => ?_⟩⟩
    have hil := (List.getElem?_eq_some_iff.1 hi).1
    rw [Nat.zero_add, World.ownsRow.cellAt (w := w) (base := base) h i (by omega)]; exact hi
/-- A slice that came in, as the source of an append. -/
theorem rdv_src {K : Nat → Prop} {w : World} {A : Option Addr} {n c : Nat} {l : List Value} (h : RdV K w (.slice A n c) l) : (A = none → n = 0) ∧ ((l.length = 0 → True) ∧ ∀ ad, A = some ad → ∀ j u, l[j]? = some u → w.cell? (ad.add j) = some u) ∧ l.length = n := by
  obtain ⟨A', n', c', e, hn, h1, h2, h3⟩ := h
  injection e with e1 e2 e3
  subst e1; subst e2; subst e3
  refine ⟨fun h => ?_, ⟨fun _ => trivial, fun ad had j u hj => ?_⟩, hn⟩
  · by_cases h0 : n = 0
    · exact h0
    · obtain ⟨b, o, ea, -⟩ := h3 (by omega)
      rw [h] at ea; cases ea
  · have hj' := (List.getElem?_eq_some_iff.1 hj).1
    obtain ⟨b, o, rfl, -, -, hc⟩ := h3 (by omega)
    injection had with had
    subst had
    rw [add_plain3]
    exact hc j u hj
end Go.Proofs.Ytllkojakeoennaa
