/- A strings.Builder whose bytes lie beyond a number: WriteByte, WriteString, Len, String; all below the number but the builder itself is left. -/
import Derived.Test.YtmhdjimdhcephabBwb
namespace Go.Proofs.Ytmhdjimdhcephab
open Go Go.RowKit
set_option linter.unusedVariables false

/-- Below the number lo, a step turns no block but b. -/
structure Chg (lo b : Nat) (w w' : World) : Prop where
  os : w'.os = w.os
  tape : w'.tape = w.tape
  output : w'.output = w.output
  size : w.heap.size ≤ w'.heap.size
  block : ∀ k, k < lo → k ≠ b → w'.heap[k]? = w.heap[k]?
theorem Chg.trans {lo b : Nat} {w w1 w2 : World} (h : Chg lo b w w1) (k : Chg lo b w1 w2) : Chg lo b w w2 :=
  ⟨k.os.trans h.os, k.tape.trans h.tape, k.output.trans h.output, Nat.le_trans h.size k.size, fun j hj hn => (k.block j hj hn).trans (h.block j hj hn)⟩
theorem Chg.of_below {lo b B : Nat} {w w' : World} (hb : Below B w w') (hl : lo ≤ B) : Chg lo b w w' := ⟨hb.os, hb.tape, hb.output, hb.size, fun j hj _ => hb.block j (by omega)⟩
theorem Chg.of_set {lo b : Nat} (w : World) (j : Nat) (x : Value) : Chg lo b w (w.setCell ⟨b, j, none⟩ x) :=
  ⟨rfl, rfl, rfl, by simp [World.setCell], fun k hk hn => Below.heap_setCell _ _ _ _ (fun h => hn h)⟩
theorem Chg.of_grown {lo b n : Nat} {w w' : World} {e : TypeId} {v : Value} {xs : List Value} (hown : w.ownsRow lo e 1 v n xs) (hg : w.grownBy w' v.ownBlock) (hl : lo ≤ w.heap.size) : Chg lo b w w' :=
  ⟨hg.os, hg.tape, hg.output, hg.size, fun j hj _ => hg.block j (by omega) (fun x => by have := (hown.lt j x.symm).1; omega)⟩
theorem Chg.of_gb {lo b : Nat} {w w' : World} (hg : w.grownBy w' (some b)) (hl : lo ≤ w.heap.size) : Chg lo b w w' := ⟨hg.os, hg.tape, hg.output, hg.size, fun j hj hn => hg.block j (by omega) (fun x => hn (by injection x))⟩
theorem Chg.below {lo b B : Nat} {w w' : World} (h : Chg lo b w w') (hB : B ≤ b) (hl : B ≤ lo) : Below B w w' := ⟨h.os, h.tape, h.output, h.size, fun k hk => h.block k (by omega) (by omega)⟩
theorem Blk.chg {lo b k : Nat} {w w' : World} {T : TypeId} {cs : List Value} (h : Blk w k T cs) (hc : Chg lo b w w') (hk : k < lo) (hn : k ≠ b) : Blk w' k T cs := (hc.block k hk hn).trans h

end Go.Proofs.Ytmhdjimdhcephab
