/- Plain: which patterns can occur in two words that follow one another. -/
import Derived.Test.YtijmfienaoeboabEnP
import Derived.Lib.IndexMore
import Derived.Lib.Strings
namespace Go.Proofs.Ytijmfienaoeboab
open Go Go.RowKit
set_option linter.unusedVariables false

/-- The words of a state. -/
def wl (m p : List ByteArray) (s : Int) : List ByteArray := if s = -1 then m else p
theorem wl_minus (m p : List ByteArray) : wl m p (-1) = m := rfl
theorem wl_plus (m p : List ByteArray) : wl m p 1 = p := rfl
theorem occ_pre (s pat : List UInt8) (i : Nat) : Lib.occAt s pat i = true ↔ pat <+: s.drop i := by
  unfold Lib.occAt; rw [List.isPrefixOf_iff_prefix]
theorem contains_iff (s pat : List UInt8) : Lib.contains s pat = true ↔ ∃ i, i ≤ s.length ∧ Lib.occAt s pat i = true := by
  unfold Lib.contains
  rcases Lib.index_spec s pat with ⟨h1, h2⟩ | ⟨i, h1, h2, h3, -⟩
  · rw [h1]
    constructor
    · intro h; exact absurd h (by decide)
    · rintro ⟨i, hi, ho⟩; rw [h2 i hi] at ho; exact absurd ho (by decide)
  · rw [h1]
    exact ⟨fun _ => ⟨i, h2, h3⟩, fun _ => decide_eq_true (by omega)⟩

/-- The pattern is cut at c: the word ends in its front, and one of the next words begins with the rest. -/
def acr (y pat : List UInt8) (ns : List ByteArray) (c : Nat) : Bool := Lib.hasSuffix y (pat.take c) && ns.any fun z => Lib.hasPrefix z.data.toList (pat.drop c)
def laB (y pat : List UInt8) (ns : List ByteArray) : Bool := (List.range pat.length).any fun c => decide (1 ≤ c) && acr y pat ns c
/-- What the program asks of a word in a state; what the model asks. -/
def prB (m p : List ByteArray) (pat : List UInt8) (s : Int) (y : ByteArray) : Bool := Lib.contains y.data.toList pat || laB y.data.toList pat (wl m p (nxS s y))
def atB (both pat : List UInt8) : Bool := (List.range both.length).any fun i => Lib.occAt both pat i
def moB (m p : List ByteArray) (pat : List UInt8) (s : Int) (y : ByteArray) : Bool := (wl m p (nxS s y)).any fun z => atB (y.data.toList ++ z.data.toList) pat
def pcB (m p : List ByteArray) (pat : List UInt8) : Bool := m.any (prB m p pat (-1)) || p.any (prB m p pat 1)
def mcB (m p : List ByteArray) (pat : List UInt8) : Bool := m.any (moB m p pat (-1)) || p.any (moB m p pat 1)

theorem pcB_iff (m p : List ByteArray) (pat : List UInt8) : pcB m p pat = true ↔ ∃ s y, (s = -1 ∨ s = 1) ∧ y ∈ wl m p s ∧ prB m p pat s y = true := by
  unfold pcB
  rw [Bool.or_eq_true, List.any_eq_true, List.any_eq_true]
  constructor
  · rintro (⟨y, h1, h2⟩ | ⟨y, h1, h2⟩)
    · exact ⟨-1, y, .inl rfl, h1, h2⟩
    · exact ⟨1, y, .inr rfl, h1, h2⟩
  · rintro ⟨s, y, rfl | rfl, h1, h2⟩
    · exact .inl ⟨y, h1, h2⟩
    · exact .inr ⟨y, h1, h2⟩
theorem mcB_iff (m p : List ByteArray) (pat : List UInt8) : mcB m p pat = true ↔ ∃ s y, (s = -1 ∨ s = 1) ∧ y ∈ wl m p s ∧ moB m p pat s y = true := by
  unfold mcB
  rw [Bool.or_eq_true, List.any_eq_true, List.any_eq_true]
  constructor
  · rintro (⟨y, h1, h2⟩ | ⟨y, h1, h2⟩)
    · exact ⟨-1, y, .inl rfl, h1, h2⟩
    · exact ⟨1, y, .inr rfl, h1, h2⟩
  · rintro ⟨s, y, rfl | rfl, h1, h2⟩
    · exact .inl ⟨y, h1, h2⟩
    · exact .inr ⟨y, h1, h2⟩
theorem laB_iff (y pat : List UInt8) (ns : List ByteArray) : laB y pat ns = true ↔ ∃ c, 1 ≤ c ∧ c < pat.length ∧ acr y pat ns c = true := by
  unfold laB
  rw [List.any_eq_true]
  constructor
  · rintro ⟨c, h1, h2⟩
    rw [Bool.and_eq_true] at h2
    exact ⟨c, of_decide_eq_true h2.1, List.mem_range.1 h1, h2.2⟩
  · rintro ⟨c, h1, h2, h3⟩
    exact ⟨c, List.mem_range.2 h2, by rw [Bool.and_eq_true]; exact ⟨decide_eq_true h1, h3⟩⟩
theorem atB_iff (both pat : List UInt8) : atB both pat = true ↔ ∃ i, i < both.length ∧ pat <+: both.drop i := by
  unfold atB
  rw [List.any_eq_true]
  constructor
  · rintro ⟨c, h1, h2⟩
    exact ⟨c, List.mem_range.1 h1, (occ_pre _ _ _).1 h2⟩
  · rintro ⟨c, h1, h2⟩
    exact ⟨c, List.mem_range.2 h1, (occ_pre _ _ _).2 h2⟩
theorem acr_iff (y pat : List UInt8) (ns : List ByteArray) (c : Nat) : acr y pat ns c = true ↔ pat.take c <:+ y ∧ ∃ z ∈ ns, pat.drop c <+: z.data.toList := by
  unfold acr Lib.hasSuffix Lib.hasPrefix
  rw [Bool.and_eq_true, List.any_eq_true, List.isSuffixOf_iff_suffix]
  constructor
  · rintro ⟨h1, z, h2, h3⟩; exact ⟨h1, z, h2, List.isPrefixOf_iff_prefix.1 h3⟩
  · rintro ⟨h1, z, h2, h3⟩; exact ⟨h1, z, h2, List.isPrefixOf_iff_prefix.2 h3⟩

/-- Both are one. -/
theorem pc_mc {m p : List ByteArray} (pat : List UInt8) (hp : pat ≠ []) (hm0 : m ≠ []) (hp0 : p ≠ []) : pcB m p pat = mcB m p pat := by
  have hw : ∀ s, wl m p s ≠ [] := fun s => by unfold wl; split <;> assumption
  have hlen : 0 < pat.length := List.length_pos_iff.2 hp
  rw [Bool.eq_iff_iff, pcB_iff, mcB_iff]
  constructor
  · rintro ⟨s, y, hs, hy, h⟩
    refine ⟨s, y, hs, hy, ?_⟩
    unfold moB
    rw [List.any_eq_true]
    unfold prB at h
    rw [Bool.or_eq_true, contains_iff, laB_iff] at h
    rcases h with ⟨i, hi, ho⟩ | ⟨c, hc1, hc2, ha⟩
    · obtain ⟨z, hz⟩ := List.exists_mem_of_ne_nil _ (hw (nxS s y))
      refine ⟨z, hz, (atB_iff _ _).2 ⟨i, ?_, ?_⟩⟩
      · have h1 := (occ_pre _ _ _).1 ho
        have h2 := h1.length_le
        rw [List.length_drop] at h2
        rw [List.length_append]; omega
      · rw [List.drop_append_of_le_length hi]
        exact ((occ_pre _ _ _).1 ho).trans (List.prefix_append _ _)
    · obtain ⟨⟨a, ea⟩, z, hz, b, eb⟩ := (acr_iff _ _ _ _).1 ha
      refine ⟨z, hz, (atB_iff _ _).2 ⟨a.length, ?_, ?_⟩⟩
      · have := congrArg List.length ea
        rw [List.length_append, List.length_take] at this
        rw [List.length_append]; omega
      · refine ⟨b, ?_⟩
        rw [← ea, ← eb, List.append_assoc, List.drop_left' rfl, ← List.append_assoc, List.take_append_drop]
  · rintro ⟨s, y, hs, hy, h⟩
    unfold moB at h
    rw [List.any_eq_true] at h
    obtain ⟨z, hz, h⟩ := h
    obtain ⟨i, hi, b, eb⟩ := (atB_iff _ _).1 h
    by_cases h1 : i + pat.length ≤ y.data.toList.length
    · refine ⟨s, y, hs, hy, ?_⟩
      unfold prB
      rw [Bool.or_eq_true, contains_iff]
      refine .inl ⟨i, by omega, (occ_pre _ _ _).2 ?_⟩
      rw [List.drop_append_of_le_length (by omega)] at eb
      exact List.prefix_of_prefix_length_le ⟨b, eb⟩ (List.prefix_append _ _) (by rw [List.length_drop]; omega)
    · by_cases h2 : y.data.toList.length ≤ i
      · refine ⟨nxS s y, z, nxS_st s y hs, hz, ?_⟩
        unfold prB
        rw [Bool.or_eq_true, contains_iff]
        rw [List.length_append] at hi
        refine .inl ⟨i - y.data.toList.length, by omega, (occ_pre _ _ _).2 ⟨b, ?_⟩⟩
        rw [eb, List.drop_append, List.drop_of_length_le h2]; rfl
      · refine ⟨s, y, hs, hy, ?_⟩
        unfold prB
        rw [Bool.or_eq_true, laB_iff]
        have eb' := eb
        rw [List.drop_append_of_le_length (by omega)] at eb'
        have hdl : (y.data.toList.drop i).length = y.data.toList.length - i := List.length_drop
        have e1 : pat.take (y.data.toList.length - i) = y.data.toList.drop i := by
          have := congrArg (List.take (y.data.toList.length - i)) eb'
          rw [List.take_append_of_le_length (by omega), List.take_left' hdl] at this
          exact this
        have e2 : pat.drop (y.data.toList.length - i) ++ b = z.data.toList := by
          have := congrArg (List.drop (y.data.toList.length - i)) eb'
          rw [List.drop_append_of_le_length (by omega), List.drop_left' hdl] at this
          exact this
        refine .inr ⟨y.data.toList.length - i, by omega, by omega, (acr_iff _ _ _ _).2 ⟨?_, z, hz, b, e2⟩⟩
        rw [e1]; exact List.drop_suffix _ _
/-- What IsComma answers. -/
def icB (d wd : Int) (m p : List ByteArray) (pat : ByteArray) : Bool := bcOk d wd m p && (isB pat.data.toList && (decide (1 ≤ (pat.size : Int) ∧ (pat.size : Int) ≤ wd + 1) && !mcB m p pat.data.toList))
end Go.Proofs.Ytijmfienaoeboab
