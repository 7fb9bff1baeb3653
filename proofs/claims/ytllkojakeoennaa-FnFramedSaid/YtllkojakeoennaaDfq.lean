/- Plain: runs of stuffed bits, and the frames that come back from between flags. -/
import Derived.Test.YtllkojakeoennaaDfp
import Derived.Test.YtllkojakeoennaaDfs
namespace Go.Proofs.Ytllkojakeoennaa
open Go Go.RowKit
set_option linter.unusedVariables false

/-- The run of d at the end, and the longest one. -/
def rnF (d : UInt8) (p : Nat × Nat) (x : UInt8) : Nat × Nat := if x = d then (p.1 + 1, max p.2 (p.1 + 1)) else (0, p.2)
def rn (d : UInt8) (l : List UInt8) : Nat × Nat := l.foldl (rnF d) (0, 0)
theorem rn_snoc (d : UInt8) (l : List UInt8) (x : UInt8) : rn d (l ++ [x]) = rnF d (rn d l) x := by simp [rn]
theorem rnF_mono (d : UInt8) (l : List UInt8) : ∀ p : Nat × Nat, p.2 ≤ (l.foldl (rnF d) p).2 := by
  induction l with
  | nil => intro p; exact Nat.le_refl _
  | cons x l ih =>
    intro p
    refine Nat.le_trans ?_ (ih _)
    unfold rnF
    split
    · exact Nat.le_max_left _ _
    · exact Nat.le_refl _
theorem rnF_rep (d : UInt8) : ∀ (k : Nat) (p : Nat × Nat), ((List.replicate k d).foldl (rnF d) p).1 = p.1 + k ∧ (0 < k → p.1 + k ≤ ((List.replicate k d).foldl (rnF d) p).2)
  | 0, p => ⟨rfl, fun h => by omega⟩
  | k + 1, p => by
    obtain ⟨h1, h2⟩ := rnF_rep d k (rnF d p d)
    rw [List.replicate_succ, List.foldl_cons]
    have e : rnF d p d = (p.1 + 1, max p.2 (p.1 + 1)) := by unfold rnF; rw [if_pos rfl]
    rw [e] at h1 h2 ⊢
    refine ⟨by rw [h1]; simp only; omega, fun _ => ?_⟩
    by_cases h0 : k = 0
    · subst h0; simp; omega
    · have := h2 (by omega); simp only at this; omega
theorem rn_win (d : UInt8) (A B : List UInt8) (k : Nat) (hk : 0 < k) : k ≤ (rn d (A ++ (List.replicate k d ++ B))).2 := by
  unfold rn
  rw [List.foldl_append, List.foldl_append]
  refine Nat.le_trans ?_ (rnF_mono d B _)
  have := (rnF_rep d k (A.foldl (rnF d) (0, 0))).2 hk
  omega
/-- What is stuffed comes back, and its runs are not too long. -/
theorem st_runs {a : Nat} {d o : UInt8} (hdo : o ≠ d) (ha : 1 ≤ a) (l : List UInt8) : ∃ M r, upTo a d o M l r ∧ (rn d M).1 = r ∧ (rn d M).2 ≤ a := by
  induction l using snocInd with
  | nil => exact ⟨[], 0, upTo_nil a d o ha, rfl, Nat.zero_le _⟩
  | snoc l x ih =>
    obtain ⟨M, r, hu, h1, h2⟩ := ih
    have hr := hu.2.2
    by_cases hx : x = d
    · subst hx
      by_cases h3 : r + 1 < a
      · refine ⟨M ++ [x], r + 1, upTo_digit hu h3, ?_, ?_⟩
        · rw [rn_snoc]; unfold rnF; rw [if_pos rfl]; simp only; omega
        · rw [rn_snoc]; unfold rnF; rw [if_pos rfl]; simp only; omega
      · refine ⟨M ++ [x, o], 0, upTo_further hu ha h3, ?_, ?_⟩
        · rw [show M ++ [x, o] = (M ++ [x]) ++ [o] from by simp, rn_snoc]; unfold rnF; rw [if_neg hdo]
        · rw [show M ++ [x, o] = (M ++ [x]) ++ [o] from by simp, rn_snoc, rn_snoc]; unfold rnF; rw [if_neg hdo, if_pos rfl]; simp only; omega
    · refine ⟨M ++ [x], 0, upTo_other hu ha x hx, ?_, ?_⟩
      · rw [rn_snoc]; unfold rnF; rw [if_neg hx]
      · rw [rn_snoc]; unfold rnF; rw [if_neg hx]; exact h2
theorem st_back {a : Nat} {d o : UInt8} (hdo : o ≠ d) (ha : 1 ≤ a) (l : List UInt8) : unOk a d o (stF a d o l).1 = true ∧ (unF a d (stF a d o l).1).1 = l ∧ (rn d (stF a d o l).1).2 ≤ a := by
  obtain ⟨M, r, hu, h1, h2⟩ := st_runs hdo ha l
  rw [hu.2.1]
  exact ⟨(upTo_end hu).1, (upTo_end hu).2, h2⟩
/-- No flag begins where a run is within stuffed bits. -/
theorem flag_at {a : Nat} {d o : UInt8} {L : List UInt8} {j : Nat} (h : Lib.occAt L (flL a d o) j = true) : j + (a + 3) ≤ L.length ∧ L[j]? = some o ∧ (∀ i, i < a + 1 → L[j + 1 + i]? = some d) ∧ L[j + a + 2]? = some o := by
  have hF : (flL a d o).length = a + 3 := by simp [flL]
  have hroom : j + (flL a d o).length ≤ L.length := by
    rcases Lib.occAt_room h with h' | h'
    · exact h'
    · rw [h'] at hF; simp at hF
  rw [Lib.occAt_iff_take _ _ _ hroom, beq_iff_eq] at h
  have hg : ∀ i, i < a + 3 → L[j + i]? = (flL a d o)[i]? := by
    intro i hi
    rw [← h, List.getElem?_take, if_pos (by omega), List.getElem?_drop]
  refine ⟨by omega, ?_, fun i hi => ?_, ?_⟩
  · have := hg 0 (by omega)
    simpa [flL] using this
  · have := hg (i + 1) (by omega)
    rw [show j + 1 + i = j + (i + 1) from by omega, this]
    simp [flL, List.getElem?_append, show i < a + 1 from hi]
  · have := hg (a + 2) (by omega)
    rw [show j + a + 2 = j + (a + 2) from by omega, this]
    simp [flL]
theorem no_run {a : Nat} {d : UInt8} {S : List UInt8} (h : (rn d S).2 ≤ a) {k : Nat} (hk : k + (a + 1) ≤ S.length) (hd : ∀ i, i < a + 1 → S[k + i]? = some d) : False := by
  have e : (S.drop k).take (a + 1) = List.replicate (a + 1) d := by
    apply List.ext_getElem?
    intro i
    rw [List.getElem?_take]
    split
    · rename_i hi
      rw [List.getElem?_drop, hd i hi, List.getElem?_replicate, if_pos hi]
    · rename_i hi
      rw [List.getElem?_replicate, if_neg hi]
  have e2 : S = S.take k ++ (List.replicate (a + 1) d ++ (S.drop k).drop (a + 1)) := by
    rw [← e, List.take_append_drop, List.take_append_drop]
  have := rn_win d (S.take k) ((S.drop k).drop (a + 1)) (a + 1) (by omega)
  rw [← e2] at this
  omega
theorem no_flag_in {a : Nat} {d o : UInt8} {S : List UInt8} (h : (rn d S).2 ≤ a) (j : Nat) : Lib.occAt S (flL a d o) j = false := by
  cases hh : Lib.occAt S (flL a d o) j
  · rfl
  · obtain ⟨h1, -, h2, -⟩ := flag_at hh
    exact (no_run h (k := j + 1) (by omega) h2).elim
theorem no_flag_ahead {a : Nat} {d o : UInt8} (hdo : o ≠ d) {S T : List UInt8} (h : (rn d S).2 ≤ a) (j : Nat) (hj : j < S.length) : Lib.occAt (S ++ (flL a d o ++ T)) (flL a d o) j = false := by
  cases hh : Lib.occAt (S ++ (flL a d o ++ T)) (flL a d o) j
  · rfl
  · obtain ⟨h1, -, h2, -⟩ := flag_at hh
    by_cases hb : j + a + 1 < S.length
    · refine (no_run h (k := j + 1) (by omega) fun i hi => ?_).elim
      have := h2 i hi
      rwa [List.getElem?_append_left (by omega)] at this
    · have := h2 (S.length - (j + 1)) (by omega)
      rw [show j + 1 + (S.length - (j + 1)) = S.length from by omega, List.getElem?_append_right (Nat.le_refl _), Nat.sub_self] at this
      simp [flL] at this
      exact absurd this hdo
theorem index_flag {a : Nat} {d o : UInt8} (hdo : o ≠ d) {S T : List UInt8} (h : (rn d S).2 ≤ a) : Lib.index (S ++ (flL a d o ++ T)) (flL a d o) = (S.length : Int) := by
  refine Lib.index_first (by simp) ?_ (fun j hj => no_flag_ahead hdo h j hj)
  rw [Lib.occAt_iff_take _ _ _ (by simp)]
  simp
theorem index_no_flag {a : Nat} {d o : UInt8} {S : List UInt8} (h : (rn d S).2 ≤ a) : Lib.index S (flL a d o) = -1 := Lib.index_none fun j _ => no_flag_in h j
/-- Frames and flags behind the first flag. -/
def frT (a : Nat) (d o : UInt8) (fs : List ByteArray) : List UInt8 := fs.flatMap fun f => (stF a d o f.data.toList).1 ++ flL a d o
theorem dfG_frames {a : Nat} {d o : UInt8} (hdo : o ≠ d) (ha : 1 ≤ a) : ∀ fs : List ByteArray, (∀ f ∈ fs, f.data.toList ≠ []) → dfG a d o (flL a d o) (frT a d o fs) true = fs
  | [], _ => dfG_stop (index_no_flag (S := []) (Nat.zero_le _))
  | f :: fs, hne => by
    obtain ⟨h1, h2, h3⟩ := st_back hdo ha f.data.toList
    have hf := hne f List.mem_cons_self
    have hl := (stF_len a d o f.data.toList).1
    have e : frT a d o (f :: fs) = (stF a d o f.data.toList).1 ++ (flL a d o ++ frT a d o fs) := by simp [frT]
    rw [e, dfG_step (k := (stF a d o f.data.toList).1.length) (by simp [flL]) (by simp) (index_flag hdo h3), if_pos rfl, List.take_left' rfl]
    rw [← List.drop_drop, List.drop_left' rfl, List.drop_left' rfl, dfG_frames hdo ha fs (fun g hg => hne g (List.mem_cons_of_mem _ hg))]
    rw [dfOne_yes (by intro h0; rw [h0] at hl; have := List.length_pos_iff.2 hf; rw [List.length_nil] at hl; omega) h1, h2]
    rfl
theorem dfG_junk {a : Nat} {d o : UInt8} (hdo : o ≠ d) (ha : 1 ≤ a) {S : List UInt8} (h : (rn d S).2 ≤ a) (fs : List ByteArray) (hne : ∀ f ∈ fs, f.data.toList ≠ []) : dfG a d o (flL a d o) (S ++ (flL a d o ++ frT a d o fs)) false = fs := by
  rw [dfG_step (k := S.length) (by simp [flL]) (by simp) (index_flag hdo h), if_neg (by simp), List.nil_append, ← List.drop_drop, List.drop_left' rfl, List.drop_left' rfl, dfG_frames hdo ha fs hne]
theorem frT_len {a : Nat} {d o : UInt8} {c : Nat} : ∀ (fs : List ByteArray), (∀ f ∈ fs, f.data.toList.length ≤ c) → (frT a d o fs).length ≤ fs.length * (2 * c + (a + 3))
  | [], _ => by simp [frT]
  | f :: fs, h => by
    have h1 := frT_len fs (fun g hg => h g (List.mem_cons_of_mem _ hg)) (a := a) (d := d) (o := o)
    have h2 := (stF_len a d o f.data.toList).2
    have h3 := h f List.mem_cons_self
    have e : frT a d o (f :: fs) = (stF a d o f.data.toList).1 ++ (flL a d o ++ frT a d o fs) := by simp [frT]
    rw [e, List.length_append, List.length_append, List.length_cons, Nat.succ_mul]
    have : (flL a d o).length = a + 3 := by simp [flL]
    omega
theorem frF_frames (a b : Int) (fs : List ByteArray) (hb : ∀ f ∈ fs, isB f.data.toList = true) (hl : (flG a b ++ frT a.toNat (dB b) (oB b) fs).length ≤ 400) : frF a b (flG a b) fs = some (flG a b ++ frT a.toNat (dB b) (oB b) fs) := by
  induction fs using snocInd with
  | nil => simp [frF, frT]
  | snoc fs f ih =>
    have e : frT a.toNat (dB b) (oB b) (fs ++ [f]) = frT a.toNat (dB b) (oB b) fs ++ (stL a b f.data.toList ++ flG a b) := by simp [frT, stL, flG]
    have h1 := ih (fun g hg => hb g (List.mem_append_left _ hg)) (by rw [e] at hl; simp at hl ⊢; omega)
    have h2 : frF a b (flG a b) (fs ++ [f]) = frStep a b (flG a b) (frF a b (flG a b) fs) f := by unfold frF; rw [List.foldl_append]; rfl
    rw [h2, h1, fr_yes (hb f (by simp)) (by rw [e, ← List.append_assoc] at hl; exact hl), e, List.append_assoc]
end Go.Proofs.Ytllkojakeoennaa
