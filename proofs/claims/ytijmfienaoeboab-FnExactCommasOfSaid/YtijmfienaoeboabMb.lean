/- The law's marks of a block code. -/
import Derived.Test.YtijmfienaoeboabMk
import Derived.Test.YtijmfienaoeboabBc
namespace Go.Proofs.Ytijmfienaoeboab
open Go Go.RowKit
set_option linter.unusedVariables false

set_option maxRecDepth 100000 in
theorem markBlockCode_any (w : World) (lo mid : Nat) (d wd : Int) (vm vp : Value) (m p : List ByteArray) (hm : OwnT w lo vm m) (hb : ∀ k, vm.ownBlock = some k → k < mid) (hp : OwnT w mid vp p) (hlo : lo ≤ mid) (hls : mid ≤ w.heap.size) (lm : m.length ≤ 1048576) (lp : p.length ≤ 1048576) :
    Calls Try.prog 57 #[.agg #[.int .i64 d, .int .i64 wd, vm, vp], .int .i64 1] w fun e w' => e = .returned (.int .i64 ((1 + m.length + p.length : Nat) : Int)) ∧ (∀ k, k < w.heap.size → (k < lo ∨ (some k ≠ vm.ownBlock ∧ some k ≠ vp.ownBlock)) → w'.heap[k]? = w.heap[k]?) ∧ Below lo w w' := by
  obtain ⟨A1, c1, e1⟩ := ownt_shape hm
  obtain ⟨A2, c2, e2⟩ := ownt_shape hp
  generalize hn1 : m.length = n1 at e1
  generalize hn2 : p.length = n2 at e2
  subst e1 e2
  have hbx : Below w.heap.size w (w.alloc (.cells #[.int .i64 d, .int .i64 wd, .slice A1 n1 c1, .slice A2 n2 c2] 61)) := (Below.refl _ _).alloc (Nat.le_refl _) _
  have HB := Lib.hid hbx
  have HBK := Lib.hid (Bk.new w (bcV d wd (.slice A1 n1 c1) (.slice A2 n2 c2)) 61 w.heap.size rfl)
  have HM := Lib.hid (OwnT.keep hm hbx)
  have HP := Lib.hid (OwnT.keep hp hbx)
  have CM := Lib.hid (fun W h => markStringS_any W lo (.slice A1 n1 c1) m 1 (by omega) (by omega) h)
  have CP := Lib.hid (fun W h => markStringS_any W mid (.slice A2 n2 c2) p (1 + m.length) (by omega) (by omega) h)
  have H1 : ∀ k, (Value.slice A1 n1 c1).ownBlock = some k → lo ≤ k ∧ k < w.heap.size := fun k hk => World.ownsRow.lt hm k hk
  have H2 : ∀ k, (Value.slice A2 n2 c2).ownBlock = some k → mid ≤ k ∧ k < w.heap.size := fun k hk => World.ownsRow.lt hp k hk
  have HX := Lib.hid (And.intro H1 H2)
  have HBB := Lib.hid hb
  have HN := Lib.hid (And.intro hn1 hn2)
  clear hm hp hbx H1 H2 hb hn1 hn2
  go_enter Try.func57, Try.ntmps57
  go_wp2_with fail
  refine (CM.out _ HM.out).mono ?_; rintro e w1 ⟨rfl, ho1, ht1⟩
  have HP1 := Lib.hid (ht1.own HP.out (fun k hk e => by have h1 := HBB.out k e; have h2 := (HX.out.2 k hk).1; omega))
  have q3 : w1.cell? ⟨w.heap.size, 3, none⟩ = some (.slice A2 n2 c2) := by
    have hh := ht1.block w.heap.size (by simp) (fun e => by have := (HX.out.1 _ e.symm).2; omega)
    have := HBK.out.c 3 _ rfl
    rw [← this]
    exact World.cell?_of_block hh
  have HT1 := Lib.hid ht1
  clear ho1 ht1
  go_wp2_with fail
  refine (CP.out _ HP1.out).mono ?_; rintro e w2 ⟨rfl, ho2, ht2⟩
  have HT2 := Lib.hid ht2
  clear ho2 ht2 q3
  go_wp2_with fail
  go_ret
  have g1 := HT1.out
  have g2 := HT2.out
  have gs : w.heap.size + 1 ≤ w1.heap.size := by have := g1.size; simpa using this
  have hne : ∀ k, k < w.heap.size → some k ≠ (Value.slice A1 n1 c1).ownBlock → some k ≠ (Value.slice A2 n2 c2).ownBlock → w2.heap[k]? = w.heap[k]? := by
    intro k hk h1 h2
    rw [g2.block k (by omega) h2, g1.block k (by simp; omega) h1]
    exact HB.out.block k hk
  refine ⟨ret_int (by obtain ⟨x1, x2⟩ := HN.out; show (1 + (m.length : Int) + (p.length : Int)) = _; omega), fun k hk hor => ?_, g2.os.trans (g1.os.trans HB.out.os), g2.tape.trans (g1.tape.trans HB.out.tape), g2.output.trans (g1.output.trans HB.out.output), by have := g2.size; omega, fun k hk => ?_⟩
  · rcases hor with h | ⟨h1, h2⟩
    · exact hne k hk (fun e => by have := (HX.out.1 k e.symm).1; omega) (fun e => by have := (HX.out.2 k e.symm).1; omega)
    · exact hne k hk h1 h2
  · exact hne k (by omega) (fun e => by have := (HX.out.1 k e.symm).1; omega) (fun e => by have := (HX.out.2 k e.symm).1; omega)
end Go.Proofs.Ytijmfienaoeboab
