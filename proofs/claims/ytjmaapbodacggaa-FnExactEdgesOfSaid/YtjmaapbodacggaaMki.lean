/- Rows of numbers that are made and then filled. -/
import Derived.Test.YtjmaapbodacggaaRd
import Derived.Test.YtjmaapbodacggaaBk
namespace Go.Proofs.Ytjmaapbodacggaa
open Go Go.RowKit
set_option linter.unusedVariables false

theorem made_repI (z : Value) (hz : z.cells = #[z]) (n : Nat) : madeCells z.cells (n * 1) = (List.replicate n z).toArray := by
  rw [hz, Nat.mul_one]
  unfold madeCells
  apply Array.ext
  · simp
  · intro i h1 h2
    simp
    rw [Nat.mod_one]
    rfl
theorem make_i64 (n : Nat) (hn : n ≤ 1000) (W : World) : (Instr.makeSlice 22 (.int .i64 (n : Int)) (.int .i64 (n : Int))).run Try.prog W = .ok (.slice (some ⟨W.heap.size, 0, none⟩) n n) (W.alloc (.cells (List.replicate n (Value.int .i64 0)).toArray 2)) := by
  obtain ⟨i0, hi, hz0, hz1, hz2⟩ := info_parts Try.infoInt
  have h := run_make (P := Try.prog) W 22 2 i0 (.int .i64 0) Try.underlying22 hi hz0 .i64 .i64 n n (by omega) (Int.le_refl _) (by rw [hz2]; omega) (by omega)
  rw [hz1, Int.toNat_natCast, made_repI _ rfl] at h
  exact h
/-- The row behind make, of which the first k have been set. -/
def Fil (w : World) (base g n : Nat) (L : List Int) (k : Nat) : Prop := Bk w g (cpart L n k) ∧ w.ownsRow base 2 1 (.slice (some ⟨g, 0, none⟩) n n) n (cpart L n k)
theorem Fil.start (W : World) (base n : Nat) (L : List Int) (hl : L.length = n) (hn : n ≤ 1000) (hb : base ≤ W.heap.size) : Fil (W.alloc (.cells (List.replicate n (Value.int .i64 0)).toArray 2)) base W.heap.size n L 0 := by
  unfold Fil
  rw [cpart_zero]
  refine ⟨Bk.new _ _ _ _ rfl, ?_⟩
  have := World.ownsRow_lit (base := base) (e := 2) (size := 1) W (List.replicate n (Value.int .i64 0)).toArray n hb (by unfold maxLen; omega) (by simp)
  simpa using this
theorem Fil.keep {w w' : World} {base g n k : Nat} {L : List Int} (h : Fil w base g n L k) (hb : Below w.heap.size w w') : Fil w' base g n L k := ⟨h.1.keep hb, own_below h.2 hb⟩
theorem Fil.next {w : World} {base g n k : Nat} {L : List Int} (h : Fil w base g n L k) (hl : L.length = n) (hk : k < n) : Fil (w.setCell ⟨g, k, none⟩ (.int .i64 (L[k]'(by omega)))) base g n L (k + 1) := by
  unfold Fil
  rw [← cpart_set L n k hl hk]
  exact ⟨h.1.set k (by rw [cpart_length L n k hl (by omega)]; exact hk) _, (World.ownsRow.stored h.2 k _).1⟩
theorem Fil.at0 {w : World} {base g n k : Nat} {L : List Int} (h : Fil w base g n L k) (hl : L.length = n) (hk : k < n) : w.cell? ⟨g, k, none⟩ = some (.int .i64 0) := by
  refine h.1.c k _ ?_
  unfold cpart
  have e : (intVals (L.take k)).length = k := by rw [intVals_length, List.length_take]; omega
  rw [List.getElem?_append_right (by omega), e, Nat.sub_self, show n - k = (n - (k + 1)) + 1 from by omega, List.replicate_succ]
  rfl
theorem Fil.fz {w : World} {base g n k : Nat} {L : List Int} (h : Fil w base g n L k) (hl : L.length = n) (hk : k < n) : w.frozen? ⟨g, k, none⟩ = false := h.1.f k (by rw [cpart_length L n k hl (by omega)]; exact hk)
theorem Fil.own {w : World} {base g n : Nat} {L : List Int} (h : Fil w base g n L n) (hl : L.length = n) : Own w base (.slice (some ⟨g, 0, none⟩) n n) L := by
  have := h.2
  rw [cpart_full L n hl] at this
  unfold Own
  rw [hl]; exact this
end Go.Proofs.Ytjmaapbodacggaa
