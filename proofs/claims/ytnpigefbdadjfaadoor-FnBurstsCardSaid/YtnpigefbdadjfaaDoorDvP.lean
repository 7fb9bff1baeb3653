/- Plain facts on a divider's table, without the program. -/
import Derived.Test.YtnpigefbdadjfaaDoorGfP
import Derived.Lib.BitFns
namespace Go.Proofs.YtnpigefbdadjfaaDoor
set_option linter.unusedVariables false
set_option linter.unusedSimpArgs false
open Go

/-- The table when it is filled up to 2 * h. -/
def tlH (p d h : Nat) : List Nat := (List.range 256).map (fun a => if a < 2 * h ∨ a = 1 then tbl p d a else 0)
def tlA (p d : Nat) : List Nat := (List.range 256).map (fun a => tbl p d a)
theorem tlH_len (p d h : Nat) : (tlH p d h).length = 256 := by unfold tlH; rw [List.length_map, List.length_range]
theorem tlA_len (p d : Nat) : (tlA p d).length = 256 := by unfold tlA; rw [List.length_map, List.length_range]
theorem tlH_at (p d h a : Nat) (ha : a < 256) (hh : a < 2 * h ∨ a = 1 ∨ a = 0) : (tlH p d h)[a]? = some (tbl p d a) := by
  unfold tlH
  rw [List.getElem?_map, List.getElem?_range ha, Option.map_some]
  congr 1
  rcases hh with h1 | h1 | h1
  · rw [if_pos (.inl h1)]
  · rw [if_pos (.inr h1)]
  · subst h1
    have : tbl p d 0 = 0 := by unfold tbl; rw [Nat.zero_mul, rd_zero]
    rw [this]; split <;> rfl
theorem tlA_at (p d a : Nat) (ha : a < 256) : (tlA p d)[a]? = some (tbl p d a) := by
  unfold tlA
  rw [List.getElem?_map, List.getElem?_range ha, Option.map_some]
theorem tlH_all (p d : Nat) : tlH p d 128 = tlA p d := by
  unfold tlH tlA
  refine List.map_congr_left fun a ha => ?_
  have : a < 256 := by simpa using ha
  rw [if_pos (.inl (by omega))]
theorem tlH_zero (p d : Nat) : (List.replicate 256 0).set 1 (tbl p d 1) = tlH p d 0 := by
  refine List.ext_getElem (by rw [List.length_set, List.length_replicate, tlH_len]) fun a h1 h2 => ?_
  rw [List.getElem_set]
  simp only [tlH, List.getElem_map, List.getElem_range, List.getElem_replicate]
  by_cases e : 1 = a
  · subst e; simp
  · rw [if_neg e, if_neg (by omega)]
theorem tlH_set (p d h : Nat) (hh : h < 128) : ((tlH p d h).set (2 * h) (tbl p d (2 * h))).set (2 * h + 1) (tbl p d (2 * h + 1)) = tlH p d (h + 1) := by
  refine List.ext_getElem (by rw [List.length_set, List.length_set, tlH_len, tlH_len]) fun a h1 h2 => ?_
  rw [List.getElem_set, List.getElem_set]
  simp only [tlH, List.getElem_map, List.getElem_range]
  by_cases e : 2 * h + 1 = a
  · rw [if_pos e, ← e, if_pos (.inl (by omega))]
  · rw [if_neg e]
    by_cases e2 : 2 * h = a
    · rw [if_pos e2, ← e2, if_pos (.inl (by omega))]
    · rw [if_neg e2]
      by_cases e3 : a < 2 * h ∨ a = 1
      · rw [if_pos e3, if_pos (by omega)]
      · rw [if_neg e3, if_neg (by omega)]
theorem bitLenAux_log : ∀ (f x : Nat), x < 2 ^ f → 0 < x → Lib.bitLenAux f x = Nat.log2 x + 1
  | 0, x, h, h0 => by simp at h; omega
  | f + 1, x, h, h0 => by
    rw [Nat.pow_succ] at h
    unfold Lib.bitLenAux
    rw [if_neg (by omega)]
    by_cases h1 : x / 2 = 0
    · have : x = 1 := by omega
      subst this
      have : Lib.bitLenAux f (1 / 2) = 0 := by cases f <;> simp [Lib.bitLenAux]
      rw [this]; rfl
    · rw [bitLenAux_log f (x / 2) (by omega) (by omega), Nat.log2_def x, if_pos (by omega)]; omega
theorem bitLen_log {x : Nat} (h0 : 0 < x) (h : x < 18446744073709551616) : Lib.bitLen x = Nat.log2 x + 1 := bitLenAux_log 64 x h h0
theorem tbl_lt {p d : Nat} (h : Deg p d) (a : Nat) : tbl p d a < 2 ^ d := rd_lt h _
/-- The step with a bit 0 as the program tests it. -/
theorem nxR_shift {p d r : Nat} (hr : r < 2 ^ d) : nxR p d r 0 = if 2 * r / 2 ^ d = 1 then (2 * r) ^^^ p else 2 * r := by
  unfold nxR
  rw [Nat.add_zero, Nat.testBit_eq_decide_div_mod_eq]
  have : 2 * r / 2 ^ d < 2 := (Nat.div_lt_iff_lt_mul (Nat.two_pow_pos d)).2 (by omega)
  generalize 2 * r / 2 ^ d = q at *
  by_cases h : q = 1
  · subst h; simp
  · have : q = 0 := by omega
    subst this; simp
end Go.Proofs.YtnpigefbdadjfaaDoor
