/- The law's own functions on scramblers: szScrambler, toScrambler, eqScrambler. -/
import Derived.Test.YtnpigefbdadjfaaRd
import Derived.Test.YtnpigefbdadjfaaBk
import Derived.Test.YtnpigefbdadjfaaScP
import Derived.Below
namespace Go.Proofs.Ytnpigefbdadjfaa
open Go Go.RowKit
set_option linter.unusedVariables false

theorem bk_2 {W : World} {k : Nat} {x y : Value} (h : Bk W k [x, y]) : W.cell? ⟨k, 0, none⟩ = some x ∧ W.cell? ⟨k, 1, none⟩ = some y := ⟨h.c 0 _ rfl, h.c 1 _ rfl⟩
theorem rd_shp {w : World} {v : Value} {l : List Int} (h : Rd w v l) : ∃ A c, v = .slice A l.length c := by
  obtain ⟨A, n, c, e, hn, -⟩ := h
  exact ⟨A, c, by rw [hn]; exact e⟩
theorem own_shp {w : World} {base : Nat} {v : Value} {l : List Int} (h : Own w base v l) : ∃ A c, v = .slice A l.length c := own_shape h
theorem Own.setFar {w : World} {base : Nat} {v : Value} {l : List Int} (h : Own w base v l) {a : Addr} (ha : a.block < base) (x : Value) : Own (w.setCell a x) base v l := ownsRow_setCell_below h ha x
/-- The cells of a scrambler. -/
def scV (v : Value) (s : ByteArray) : List Value := [v, .string s]

end Go.Proofs.Ytnpigefbdadjfaa
