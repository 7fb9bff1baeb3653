/- The model's sum of valid fractions. -/
import Derived.Test.YtnpigefbdadjfaaSfA
import Derived.Test.YtnpigefbdadjfaaSfP
import Derived.Test.YtnpigefbdadjfaaAdS
namespace Go.Proofs.Ytnpigefbdadjfaa
open Go Go.RowKit
set_option linter.unusedVariables false

theorem add_valid (fn fd gn gd : Int) (w : World) (hf : fIs fn fd = true) (hg : fIs gn gd = true) :
    Calls Try.prog 84 #[.agg #[.int .i64 fn, .int .i64 fd], .agg #[.int .i64 gn, .int .i64 gd]] w fun e w' => e = .returned (.tuple #[.agg #[.int .i64 (agN fn gn fd gd), .int .i64 (agD fn gn fd gd)], .bool (agB fn gn fd gd)]) ∧ Below w.heap.size w w' := by
  obtain ⟨⟨f3, f4⟩, f1, f2⟩ := fIs_bd hf
  obtain ⟨⟨g3, g4⟩, g1, g2⟩ := fIs_bd hg
  have e1 : agN fn gn fd gd = foN (adN fn gn fd.toNat gd.toNat) (adM fn gn fd.toNat gd.toNat) := if_pos ⟨hf, hg⟩
  have e2 : agD fn gn fd gd = foD (adN fn gn fd.toNat gd.toNat) (adM fn gn fd.toNat gd.toNat) := if_pos ⟨hf, hg⟩
  have e3 : agB fn gn fd gd = (ptB (adN fn gn fd.toNat gd.toNat) && ptB (adM fn gn fd.toNat gd.toNat)) := if_pos ⟨hf, hg⟩
  rw [e1, e2, e3]
  have := l01FAdd_any fn gn fd.toNat gd.toNat w (by rw [Int.toNat_of_nonneg (by omega)]; exact hf) (by rw [Int.toNat_of_nonneg (by omega)]; exact hg)
  rw [Int.toNat_of_nonneg (show 0 ≤ fd by omega), Int.toNat_of_nonneg (show 0 ≤ gd by omega)] at this
  exact this
/-- The result's box, the sum's box, boxes made since. -/
def Gs (w W : World) (X Y : Value) (L : List (Nat × Value × Value)) : Prop := (FBox W w.heap.size (.int .i64 0) (.int .i64 0) ∧ FBox W (w.heap.size + 1) X Y ∧ Below w.heap.size w W) ∧ ∀ x ∈ L, w.heap.size + 1 < x.1 ∧ FBox W x.1 x.2.1 x.2.2
theorem Gs.keep {w W W' : World} {X Y : Value} {L : List (Nat × Value × Value)} (h : Gs w W X Y L) (hb : Below W.heap.size W W') : Gs w W' X Y L := ⟨⟨fbox_keep h.1.1 hb, fbox_keep h.1.2.1 hb, bnext h.1.2.2 hb⟩, fun x hx => ⟨(h.2 x hx).1, fbox_keep (h.2 x hx).2 hb⟩⟩
theorem Gs.alloc {w W : World} {X Y : Value} {L : List (Nat × Value × Value)} (h : Gs w W X Y L) (o : Obj) : Gs w (W.alloc o) X Y L := h.keep ((Below.refl _ _).alloc (Nat.le_refl _) o)
theorem Gs.drew {w W : World} {X Y : Value} {L : List (Nat × Value × Value)} (h : Gs w W X Y L) : Gs w W.drew X Y L := h.keep (Below.refl _ _).drew
theorem Gs.new {w W : World} {X Y : Value} {L : List (Nat × Value × Value)} (h : Gs w W X Y L) (x y : Value) (t : TypeId) : Gs w (W.alloc (.cells #[x, y] t)) X Y ((W.heap.size, x, y) :: L) := by
  refine ⟨(h.alloc _).1, fun z hz => ?_⟩
  rcases List.mem_cons.1 hz with rfl | hz
  · exact ⟨h.1.2.1.1.2.2, fbox_new W x y t⟩
  · exact (h.alloc _).2 z hz
theorem Gs.set {w W : World} {X Y : Value} {b : Nat} {x y : Value} (h : Gs w W X Y [(b, x, y)]) (x' y' : Value) : Gs w ((W.setCell ⟨b, 0, none⟩ x').setCell ⟨b, 1, none⟩ y') X Y [(b, x', y')] := by
  have hb := h.2 (b, x, y) (by simp)
  have hlt : w.heap.size + 1 < b := hb.1
  refine ⟨⟨fbox_set_far h.1.1 (by omega) x' y', fbox_set_far h.1.2.1 (by omega) x' y', (h.1.2.2.setCell (p := ⟨b, 0, none⟩) (by show _ ≤ b; omega) x').setCell (p := ⟨b, 1, none⟩) (by show _ ≤ b; omega) y'⟩, fun z hz => ?_⟩
  rcases List.mem_cons.1 hz with rfl | hz
  · exact ⟨hlt, fbox_setF hb.2 x' y'⟩
  · cases hz
theorem Gs.sum {w W : World} {X Y : Value} {L : List (Nat × Value × Value)} (h : Gs w W X Y L) (x' y' : Value) : Gs w ((W.setCell ⟨w.heap.size + 1, 0, none⟩ x').setCell ⟨w.heap.size + 1, 1, none⟩ y') x' y' [] :=
  ⟨⟨fbox_set_far h.1.1 (by omega) x' y', fbox_setF h.1.2.1 x' y', (h.1.2.2.setCell (p := ⟨w.heap.size + 1, 0, none⟩) (by show _ ≤ _ + 1; omega) x').setCell (p := ⟨w.heap.size + 1, 1, none⟩) (by show _ ≤ _ + 1; omega) y'⟩, fun z hz => by cases hz⟩
theorem Gs.res {w W : World} {X Y : Value} {L : List (Nat × Value × Value)} (h : Gs w W X Y L) (x' y' : Value) : ((W.setCell ⟨w.heap.size, 0, none⟩ x').setCell ⟨w.heap.size, 1, none⟩ y').cell? ⟨w.heap.size, 0, none⟩ = some x' ∧ ((W.setCell ⟨w.heap.size, 0, none⟩ x').setCell ⟨w.heap.size, 1, none⟩ y').cell? ⟨w.heap.size, 1, none⟩ = some y' ∧ Below w.heap.size w ((W.setCell ⟨w.heap.size, 0, none⟩ x').setCell ⟨w.heap.size, 1, none⟩ y') := by
  have a := fbox_setF h.1.1 x' y'
  exact ⟨a.1.1, a.1.2.1, (h.1.2.2.setCell (p := ⟨w.heap.size, 0, none⟩) (Nat.le_refl _) x').setCell (p := ⟨w.heap.size, 1, none⟩) (Nat.le_refl _) y'⟩
theorem Gs.first (w : World) (t t' : TypeId) (X Y : Value) : Gs w ((w.alloc (.cells #[.int .i64 0, .int .i64 0] t)).alloc (.cells #[X, Y] t')) X Y [] := by
  refine ⟨⟨fbox_alloc (fbox_new w _ _ t) _, ?_, balloc (balloc (Below.refl w.heap.size w) _) _⟩, fun x hx => by cases hx⟩
  have := fbox_new (w.alloc (.cells #[.int .i64 0, .int .i64 0] t)) X Y t'
  simpa using this
theorem sfS_bad : ∀ (l : List (Int × Int)) (s : Int × Int), faB l = false → sfS l s = none
  | [], s, h => by simp [faB] at h
  | x :: t, s, h => by
    unfold sfS
    by_cases hx : fIs x.1 x.2 = true
    · have ht : faB t = false := by unfold faB at h ⊢; rw [List.all_cons, hx, Bool.true_and] at h; exact h
      split
      · exact sfS_bad t _ ht
      · rfl
    · have e3 : agB s.1 x.1 s.2 x.2 = false := if_neg (fun h => hx h.2)
      rw [e3, if_neg (by decide)]
end Go.Proofs.Ytnpigefbdadjfaa
