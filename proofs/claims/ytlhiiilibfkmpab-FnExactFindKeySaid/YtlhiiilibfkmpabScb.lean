/- The program's scrambleBy. -/
import Derived.Test.YtlhiiilibfkmpabRgo
import Derived.Test.YtlhiiilibfkmpabShelf
namespace Go.Proofs.Ytlhiiilibfkmpab
open Go Go.RowKit
set_option linter.unusedVariables false
theorem bcs_snoc (M : List UInt8) (c : UInt8) (x : Int) (hx : (c.toNat : Int) = x) : Lib.byteCells M ++ [.int .u8 x] = Lib.byteCells (M ++ [c]) := by simp [Lib.byteCells, ← hx]
theorem bcs_len (M : List UInt8) : (Lib.byteCells M).length = M.length := by simp [Lib.byteCells]
/-- What the loop of scrambleBy holds: the builder in the block B, the ring in the block R. -/
structure SR (R B : Nat) (w2 : World) (T : Nat) (sz : Int) (q M : List Nat) (wr : World) : Prop where
  bld : Lib.IsBuilder 120 5 B B (Lib.byteCells (tx M)) wr
  ring : Blk wr R 115 (rgV (rg q) T sz (q.length % 16 : Nat))
  bel : Below R w2 wr
  size : B ≤ wr.heap.size
theorem SR.keep {R B : Nat} {w2 : World} {T : Nat} {sz : Int} {q M : List Nat} {wr w' : World} (h : SR R B w2 T sz q M wr) (hR : R ≤ wr.heap.size) (hb : Below wr.heap.size wr w') : SR R B w2 T sz q M w' :=
  ⟨isBl_keep h.bld hb, h.ring.keep hb, h.bel.trans (hb.mono hR), Nat.le_trans h.size hb.size⟩
theorem SR.write {R B : Nat} {w2 : World} {T : Nat} {sz : Int} {q M : List Nat} {wr w' : World} (h : SR R B w2 T sz q M wr) (hR : R < B) (m : Nat) (hm : m ≤ 1)
    (hb : Lib.IsBuilder 120 5 B B (Lib.byteCells (tx M) ++ [.int .u8 (48 + (m : Int))]) w') (hw : Below B wr w') (hr : Wr 5 B wr w') : SR R B w2 T sz q (M ++ [m]) w' :=
  ⟨by rw [tx_snoc, ← bcs_snoc (tx M) _ _ (tx_byte hm)]; exact hb, h.ring.wr hr (by decide) (by omega), h.bel.trans (hw.mono (by omega)), Nat.le_trans h.size hw.size⟩
theorem SR.push {R B : Nat} {w2 : World} {T : Nat} {sz : Int} {q M : List Nat} {wr w' : World} (h : SR R B w2 T sz q M wr) (hR : R < B) (b : Nat)
    (hk : Blk w' R 115 (rgV (rgS (rg q) (q.length % 16) b) T sz ((q.length % 16 + 1) % 16 : Nat))) (hg : wr.grownBy w' (some R)) (hRw : R ≤ wr.heap.size) : SR R B w2 T sz (q ++ [b]) M w' := by
  refine ⟨isBl_grown h.bld hg h.ring (by decide) (by omega), ?_, h.bel.grown hg hRw (fun k hk => by injection hk with hk; omega), Nat.le_trans h.size hg.size⟩
  rw [rg_snoc, ← rgS_mod, List.length_append, show (q.length + [b].length) % 16 = (q.length % 16 + 1) % 16 from by simp]
  exact hk

end Go.Proofs.Ytlhiiilibfkmpab
