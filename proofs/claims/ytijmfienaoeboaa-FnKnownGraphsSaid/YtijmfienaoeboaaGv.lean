/- Contracts of both ValidGraph. -/
import Derived.Test.YtijmfienaoeboaaGt
import Derived.Deep.RegionHeld3
import Derived.Deep.DeepCutAuto
namespace Go.Proofs.Ytijmfienaoeboaa
open Go Go.RowKit
set_option linter.unusedVariables false

theorem tabA_size (g : List (List Int)) : (tabA g).size = 25 := by
  unfold tabA
  split
  · rename_i h
    unfold isG at h
    have h2 := of_decide_eq_true (Bool.and_eq_true_iff.1 h).1
    rw [List.size_toArray, tabL_len _ _ h2.2]
  · rfl
theorem tabA_all (g : List (List Int)) : (tabA g).all (·.oneCell') = true := by
  unfold tabA
  split
  · exact tabL_all _ _
  · exact zeroA_all

theorem validGraph_impl (w : World) (v : Value) (g : List (List Int)) (h : RdG w v g) :
    Calls Try.prog 58 #[.agg #[v]] w fun e w' => e = .returned (.bool (isG g)) ∧ Below w.heap.size w w' := by
  obtain ⟨A, c, rfl⟩ := rdg_shape h
  have H := Lib.hid (h.keep ((Below.refl _ _).alloc (Nat.le_refl _) (.cells #[.slice A g.length c] 60)))
  have HS : Hid ((Try.prog.info? 132).map (·.size) = some (tabA g).size) := by show _ = _; rw [info64, tabA_size]
  have HS2 : Hid (zeroA.size = (tabA g).size) := by show _ = _; rw [tabA_size]; rfl
  clear h
  generalize g.length = n at *
  go_enter Try.func58, Try.ntmps58
  go_wp2_with fail
  refine (tableOf_any _ _ g H.out).mono ?_; rintro e w1 ⟨rfl, hb1⟩
  have HB1 : Hid (Below w.heap.size w w1) := ((Below.refl _ _).alloc (Nat.le_refl _) _).trans (hb1.mono (by simp))
  clear hb1
  go_wp2_with (refine wpList_store_abs rfl 132 (.tmp 3) (.tmp 8) rfl _ _ rfl rfl 132 _ (heap_alloc_at _ _ _ rfl) HS.out HS2.out (tabA_all _) ?_)
  intro w2 hg2 hb2 hz2
  have HB2 : Hid (Below w.heap.size w w2) := (HB1.out.alloc HB1.out.size _).trans (hb2.out.mono HB1.out.size)
  clear hg2 hb2 hz2
  go_wp2_with fail
  go_ret
  exact ⟨rfl, HB2.out⟩

/-- What a law with a graph holds: its own argument, and a copy. -/
def K2 (W : World) (a b : Nat) (x y : Value) : Prop := OneC W a x ∧ OneC W b y
theorem K2.keep {W W' : World} {a b : Nat} {x y : Value} (h : K2 W a b x y) (hb : Below W.heap.size W W') : K2 W' a b x y := ⟨h.1.keep hb, h.2.keep hb⟩
theorem K2.all {W : World} {a b : Nat} {x y : Value} (h : K2 W a b x y) : W.cell? ⟨a, 0, none⟩ = some x ∧ W.cell? ⟨b, 0, none⟩ = some y := ⟨h.1.1, h.2.1⟩
theorem K2.drew {W : World} {a b : Nat} {x y : Value} (h : K2 W a b x y) : K2 W.drew a b x y := h.keep (Below.refl _ _).drew

end Go.Proofs.Ytijmfienaoeboaa
