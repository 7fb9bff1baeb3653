/- The pieces of a text between commas: plain facts. -/
import Derived.Test.YtnlnoookpcplgacDoorRdn
import Derived.Lib.Split
import Derived.Lib.SplitLaws
import Derived.Lib.IndexMore
namespace Go.Proofs.YtnlnoookpcplgacDoor
open Go Go.RowKit
set_option linter.unusedVariables false

/-- The pieces of a text between commas. -/
def sp : List UInt8 → List (List UInt8)
  | [] => [[]]
  | c :: r => if c = 44 then [] :: sp r else (match sp r with
    | [] => [[c]]
    | h :: t => (c :: h) :: t)
theorem sp_last : ∀ {a : List UInt8}, (∀ c ∈ a, c ≠ 44) → sp a = [a]
  | [], _ => rfl
  | c :: r, h => by
    have hc := h c (by simp)
    have ih := sp_last (a := r) (fun x hx => h x (by simp [hx]))
    unfold sp
    rw [if_neg hc, ih]
theorem sp_cut : ∀ {a r : List UInt8}, (∀ c ∈ a, c ≠ 44) → sp (a ++ 44 :: r) = a :: sp r
  | [], r, _ => by rw [List.nil_append]; conv => lhs; unfold sp; rw [if_pos rfl]
  | c :: a, r, h => by
    have hc := h c (by simp)
    have ih := sp_cut (a := a) (r := r) (fun x hx => h x (by simp [hx]))
    rw [List.cons_append]
    conv => lhs; unfold sp
    rw [if_neg hc, ih]
theorem sp_ne (l : List UInt8) : sp l ≠ [] := by
  cases l with
  | nil => simp [sp]
  | cons c r =>
    unfold sp
    split
    · simp
    · split <;> simp
theorem occ_comma (l : List UInt8) (j : Nat) : Lib.occAt l [44] j = decide (l[j]? = some 44) := by
  unfold Lib.occAt
  have h : (l.drop j).head? = l[j]? := by simp
  cases hd : l.drop j with
  | nil =>
    have hn : l.length ≤ j := by simpa using hd
    rw [List.getElem?_eq_none hn]; rfl
  | cons c t =>
    rw [hd] at h
    simp at h
    rw [← h]
    by_cases hc : c = 44
    · subst hc; simp [List.isPrefixOf]
    · have h2 : ¬ (44 : UInt8) = c := fun e => hc e.symm
      simp [List.isPrefixOf, hc, h2]
/-- What strings.Split makes of a text. -/
theorem sp_split : ∀ (N : Nat) (s : ByteArray), s.size ≤ N → (Lib.splitB ⟨#[44]⟩ 0 (Lib.countB s ⟨#[44]⟩) s).map (·.data.toList) = sp s.data.toList := by
  intro N
  induction N with
  | zero =>
    intro s hs
    have hi : Lib.indexB s ⟨#[44]⟩ = -1 := by
      show Lib.index s.data.toList [44] = -1
      have e : s.data.toList = [] := List.length_eq_zero_iff.1 (by have : s.data.toList.length = s.size := rfl; omega)
      rw [e]; rfl
    have e : s.data.toList = [] := List.length_eq_zero_iff.1 (by have : s.data.toList.length = s.size := rfl; omega)
    rw [Lib.splitB_miss _ _ _ _ hi, List.map_cons, List.map_nil, e]
    rfl
  | succ N ih =>
    intro s hs
    rcases Lib.index_spec s.data.toList [44] with ⟨h1, h2⟩ | ⟨i, h1, h2, h3, h4⟩
    · rw [Lib.splitB_miss _ _ _ _ h1, List.map_cons, List.map_nil]
      refine (sp_last fun c hc => ?_).symm
      obtain ⟨j, hj, e⟩ := List.getElem_of_mem hc
      have := h2 j (by omega)
      rw [occ_comma, List.getElem?_eq_getElem hj] at this
      have h5 := of_decide_eq_false this
      rw [e] at h5
      exact fun e2 => h5 (by rw [e2])
    · rw [occ_comma] at h3
      have hk := of_decide_eq_true h3
      have hlt : i < s.data.toList.length := by
        rcases Nat.lt_or_ge i s.data.toList.length with h' | h'
        · exact h'
        · rw [List.getElem?_eq_none h'] at hk; cases hk
      have hv : s.data.toList[i] = 44 := by rw [List.getElem?_eq_getElem hlt] at hk; exact Option.some.inj hk
      have hz : s.data.toList.length = s.size := rfl
      rw [Lib.countB_hit s ⟨#[44]⟩ i (by show 1 ≤ 1; omega) h1, Nat.add_comm, Lib.splitB_hit _ _ _ _ _ h1, List.map_cons]
      rw [ih _ (by simp; show s.size ≤ N + (i + 1); omega)]
      have ea : (s.extract 0 (i + 0)).data.toList = s.data.toList.take i := by simp
      have eb : (s.extract (i + (⟨#[44]⟩ : ByteArray).size) s.size).data.toList = s.data.toList.drop (i + 1) := by
        show (s.extract (i + 1) s.size).data.toList = _
        rw [ByteArray.data_extract, Array.toList_extract, List.extract_eq_take_drop]
        refine List.take_of_length_le ?_
        rw [List.length_drop]
        exact Nat.le_refl _
      rw [ea, eb]
      have hl : s.data.toList = s.data.toList.take i ++ 44 :: s.data.toList.drop (i + 1) := by
        rw [← hv, List.getElem_cons_drop, List.take_append_drop]
      conv => rhs; rw [hl]
      refine (sp_cut fun c hc => ?_).symm
      obtain ⟨j, hj, e⟩ := List.getElem_of_mem hc
      rw [List.length_take] at hj
      rw [List.getElem_take] at e
      have h5 := h4 j (by omega)
      rw [occ_comma, List.getElem?_eq_getElem (by omega)] at h5
      have h6 := of_decide_eq_false h5
      rw [e] at h6
      exact fun e2 => h6 (by rw [e2])

abbrev MV : Int := 1000000000000000
def noneT : List UInt8 := [110, 111, 110, 101]
/-- What ReadList answers. -/
def rlOk (l : List UInt8) : Bool := decide (l = noneT) || (decide ((sp l).length ≤ 64) && (sp l).all (rdOk MV))
def rlV (l : List UInt8) : List Int := if rlOk l = true then (if l = noneT then [] else (sp l).map (rdN MV)) else []
theorem rl_no {l : List UInt8} (h : rlOk l = false) : rlV l = [] := by unfold rlV; rw [h]; rfl
theorem rl_len (l : List UInt8) : (rlV l).length ≤ 64 := by
  unfold rlV
  split
  · rename_i h
    split
    · simp
    · rename_i h2
      unfold rlOk at h
      rw [decide_eq_false h2, Bool.false_or] at h
      have := of_decide_eq_true (Bool.and_eq_true_iff.1 h).1
      simpa using this
  · simp
end Go.Proofs.YtnlnoookpcplgacDoor
