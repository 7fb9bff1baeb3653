/- Plain: the frames that stand between flags. -/
import Derived.Test.YtllkojakeoennaaFri
import Derived.Laws.IdiomStrings
namespace Go.Proofs.Ytllkojakeoennaa
open Go Go.RowKit
set_option linter.unusedVariables false

/-- What stands between two neighbouring flags, as frames: one or none. -/
def dfOne (n : Nat) (d o : UInt8) (l : List UInt8) : List ByteArray := if l ≠ [] ∧ unOk n d o l = true then [⟨(unF n d l).1.toArray⟩] else []
/-- The frames in l; beh: whether l begins behind a flag. -/
def dfF (n : Nat) (d o : UInt8) (F : List UInt8) : Nat → List UInt8 → Bool → List ByteArray
  | 0, _, _ => []
  | k + 1, l, beh => if Lib.index l F = -1 then [] else (if beh = true then dfOne n d o (l.take (Lib.index l F).toNat) else []) ++ dfF n d o F k (l.drop ((Lib.index l F).toNat + F.length)) true
theorem dfF_fuel (n : Nat) (d o : UInt8) (F : List UInt8) (hF : 0 < F.length) : ∀ (k m : Nat) (l : List UInt8) (beh : Bool), l.length < k → l.length < m → dfF n d o F k l beh = dfF n d o F m l beh := by
  intro k
  induction k with
  | zero => intro m l beh h; omega
  | succ k ih =>
    intro m l beh h1 h2
    obtain ⟨m, rfl⟩ : ∃ m', m = m' + 1 := ⟨m - 1, by omega⟩
    unfold dfF
    by_cases hx : Lib.index l F = -1
    · rw [if_pos hx, if_pos hx]
    · rw [if_neg hx, if_neg hx]
      by_cases hl : l.length = 0
      · obtain rfl := List.length_eq_zero_iff.1 hl
        exfalso
        apply hx
        refine Lib.index_none fun j hj => ?_
        cases hh : Lib.occAt [] F j
        · rfl
        · rcases Lib.occAt_room hh with h' | h'
          · rw [List.length_nil] at h'; clear hx; omega
          · subst h'; simp at hF
      · rw [ih m _ true (by rw [List.length_drop]; omega) (by rw [List.length_drop]; omega)]
def dfG (n : Nat) (d o : UInt8) (F l : List UInt8) (beh : Bool) : List ByteArray := dfF n d o F (l.length + 1) l beh
theorem dfG_stop {n : Nat} {d o : UInt8} {F l : List UInt8} {beh : Bool} (h : Lib.index l F = -1) : dfG n d o F l beh = [] := by
  unfold dfG dfF; rw [if_pos h]
theorem dfG_step {n : Nat} {d o : UInt8} {F l : List UInt8} {beh : Bool} {k : Nat} (hF : 0 < F.length) (hl : k + F.length ≤ l.length) (h : Lib.index l F = (k : Int)) :
    dfG n d o F l beh = (if beh = true then dfOne n d o (l.take k) else []) ++ dfG n d o F (l.drop (k + F.length)) true := by
  unfold dfG
  rw [dfF, if_neg (by omega), h, Int.toNat_natCast]
  rw [dfF_fuel n d o F hF l.length ((l.drop (k + F.length)).length + 1) _ true (by rw [List.length_drop]; omega) (by omega)]
theorem dfOne_len (n : Nat) (d o : UInt8) (l : List UInt8) : (dfOne n d o l).length ≤ 1 ∧ ∀ s ∈ dfOne n d o l, s.size ≤ l.length := by
  unfold dfOne
  split
  · refine ⟨by simp, fun s hs => ?_⟩
    simp at hs; subst hs
    simpa [ByteArray.size] using unF_len n d l
  · exact ⟨by simp, by simp⟩
theorem dfF_len (n : Nat) (d o : UInt8) (F : List UInt8) : ∀ (k : Nat) (l : List UInt8) (beh : Bool), (dfF n d o F k l beh).length ≤ k ∧ ∀ s ∈ dfF n d o F k l beh, s.size ≤ l.length := by
  intro k
  induction k with
  | zero => intro l beh; exact ⟨by simp [dfF], by simp [dfF]⟩
  | succ k ih =>
    intro l beh
    unfold dfF
    by_cases hx : Lib.index l F = -1
    · rw [if_pos hx]; exact ⟨by simp, by simp⟩
    · rw [if_neg hx]
      obtain ⟨i1, i2⟩ := ih (l.drop ((Lib.index l F).toNat + F.length)) true
      obtain ⟨j1, j2⟩ := dfOne_len n d o (l.take (Lib.index l F).toNat)
      rw [List.length_drop] at i2
      rw [List.length_take] at j2
      cases beh
      · rw [if_neg (by simp), List.nil_append]
        exact ⟨by omega, fun s hs => by have := i2 s hs; omega⟩
      · rw [if_pos rfl, List.length_append]
        refine ⟨by omega, fun s hs => ?_⟩
        rcases List.mem_append.1 hs with h | h
        · have := j2 s h; omega
        · have := i2 s h; omega
/-- Nothing stands where no occurrence fits. -/
theorem occ_no_room {s p : List UInt8} {j : Nat} (hp : 0 < p.length) (h : s.length < j + p.length) : Lib.occAt s p j = false := by
  cases hh : Lib.occAt s p j
  · rfl
  · rcases Lib.occAt_room hh with h' | h'
    · omega
    · subst h'; simp at hp
theorem occ_drop' (s p : List UInt8) (f j : Nat) : Lib.occAt (s.drop f) p j = Lib.occAt s p (f + j) := by
  unfold Lib.occAt; rw [List.drop_drop]
def dfOk (a b : Int) (l : List UInt8) : Bool := sOk a b && isB l
def dfV (a b : Int) (l : List UInt8) : List ByteArray := if dfOk a b l = true then dfG a.toNat (dB b) (oB b) (flG a b) l false else []
theorem dfV_no {a b : Int} {l : List UInt8} (h : dfOk a b l = false) : dfV a b l = [] := by unfold dfV; rw [h]; rfl
theorem dfV_yes {a b : Int} {l : List UInt8} (h : dfOk a b l = true) : dfV a b l = dfG a.toNat (dB b) (oB b) (flG a b) l false := by unfold dfV; rw [if_pos h]
theorem dfV_len (a b : Int) (l : List UInt8) : (dfV a b l).length ≤ 401 ∧ ∀ s ∈ dfV a b l, s.size ≤ 400 := by
  cases h : dfOk a b l
  · rw [dfV_no h]; exact ⟨by simp, by simp⟩
  · rw [dfV_yes h]
    have hl : l.length ≤ 400 := (isBt (Bool.and_eq_true_iff.1 h).2).1
    obtain ⟨h1, h2⟩ := dfF_len a.toNat (dB b) (oB b) (flG a b) (l.length + 1) l false
    unfold dfG
    exact ⟨by omega, fun s hs => by have := h2 s hs; omega⟩
/-- The search so far: from st on, what has been found is Q, and no flag begins ahead of i. -/
structure DfR (n : Nat) (d o : UInt8) (F L : List UInt8) (V Q : List ByteArray) (st i : Nat) (beh : Bool) : Prop where
  val : V = Q ++ dfG n d o F (L.drop st) beh
  ord : st ≤ i
  non : ∀ j, st ≤ j → j < i → Lib.occAt L F j = false
theorem DfR.next {n : Nat} {d o : UInt8} {F L : List UInt8} {V Q : List ByteArray} {st i : Nat} {beh : Bool} (h : DfR n d o F L V Q st i beh) (ho : Lib.occAt L F i = false) : DfR n d o F L V Q st (i + 1) beh :=
  ⟨h.val, by have := h.ord; omega, fun j h1 h2 => by
    rcases Nat.lt_or_ge j i with h' | h'
    · exact h.non j h1 h'
    · rwa [show j = i from by omega]⟩
theorem DfR.done {n : Nat} {d o : UInt8} {F L : List UInt8} {V Q : List ByteArray} {st i : Nat} {beh : Bool} (h : DfR n d o F L V Q st i beh) (hF : 0 < F.length) (ho : L.length < i + F.length) : V = Q := by
  rw [h.val, dfG_stop, List.append_nil]
  refine Lib.index_none fun j hj => ?_
  rw [occ_drop']
  rcases Nat.lt_or_ge (st + j) i with h' | h'
  · exact h.non _ (by omega) h'
  · exact occ_no_room hF (by omega)
theorem DfR.hit {n : Nat} {d o : UInt8} {F L : List UInt8} {V Q : List ByteArray} {st i : Nat} {beh : Bool} (h : DfR n d o F L V Q st i beh) (hF : 0 < F.length) (hl : i + F.length ≤ L.length) (ho : Lib.occAt L F i = true) :
    DfR n d o F L V (Q ++ (if beh = true then dfOne n d o ((L.drop st).take (i - st)) else [])) (i + F.length) (i + F.length) true := by
  have hi := h.ord
  refine ⟨?_, Nat.le_refl _, fun j h1 h2 => by omega⟩
  have e : Lib.index (L.drop st) F = ((i - st : Nat) : Int) := by
    refine Lib.index_first (by rw [List.length_drop]; omega) ?_ ?_
    · rw [occ_drop', show st + (i - st) = i from by omega]; exact ho
    · intro j hj; rw [occ_drop']; exact h.non _ (by omega) (by omega)
  rw [h.val, dfG_step hF (by rw [List.length_drop]; omega) e, List.drop_drop, show st + (i - st + F.length) = i + F.length from by omega, List.append_assoc]
end Go.Proofs.Ytllkojakeoennaa
