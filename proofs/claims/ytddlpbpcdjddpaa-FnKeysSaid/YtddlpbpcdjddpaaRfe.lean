/- A range over a function that does not end by itself: its body leaves it, at the latest in a round whose number is known. -/
import Derived.RangeFuncNested
import Derived.RangeFuncCalls
import Derived.RangeFuncLeaves
import Derived.Shelf.RegionOpen
import Derived.WalkKit
import Derived.OwnWalkIn
import Derived.TacticsInMore
import Derived.LoopNIn
import Derived.LoopIn
import Derived.Test.YtddlpbpcdjddpaaBlr
import Derived.Test.YtddlpbpcdjddpaaRgi
namespace Go.Proofs.Ytddlpbpcdjddpaa
open Go Go.RowKit Go.Shelf
set_option linter.unusedVariables false

theorem gb_put (W : World) (l : Nat) (o : Obj) : W.grownBy (W.putObj l o) (some l) :=
  ⟨rfl, rfl, rfl, by simp, fun k _ hk => World.putObj_heap_other (fun e => hk (by rw [e]))⟩
/-- How a round may be left: it goes on, or it leaves the loop by one jump. -/
def rfPost (cx : Code) (lo b : Nat) (I Ix : World → Prop) (W : World) : Exit → Act → World → Prop
  | .normal, _, W' => Chg lo b W W' ∧ I W'
  | .exit i, _, W' => cx = .exit i ∧ Chg lo b W W' ∧ Ix W'
  | _, _, _ => False
/-- What an iterator without an end promises: it hands out one value after another, and returns when it is told to stop; B: the block that it writes. -/
def Endless (F : Fence) (m : Nat) (P : Program) (gf : Nat) (lb : Array Value) (enc : Nat → Array Value) (M base b : Nat) (w : World) : Prop :=
  ∀ (J : Nat → World → Prop) (Jx : World → Prop) (l : Nat) (W : World), W.heap.size = base + 2 → Below base w W → (∀ k W, J k W → k ≤ M) → (∀ k A B, J k A → A.grownBy B (some (base + 2)) → J k B) → (∀ k A B, J k A → Below A.heap.size A B → J k B) →
    (∀ k W1, J k W1 → base + 3 ≤ W1.heap.size → YieldAt F (m - 1) P l (enc k) W1 fun e W' => (e = .returned (.bool true) ∧ J (k + 1) W' ∧ Chg (base + 3) b W1 W') ∨ (e = .returned (.bool false) ∧ Jx W')) →
    J 0 W → CallsIn F m P gf (#[.func (.yield l) #[] #[]] ++ lb) W fun e W' => (∃ v, e = .returned v) ∧ Jx W'

theorem rf_endless {F : Fence} {n : Nat} {P : Program} {g : Operand} {ps : Array Tmp} {assign body : Code} {Q : Exit → Act → World → Prop} {a : Act} {w : World}
    (hro : F.round = none) (h1 : 1 ≤ n) {gf : Nat} {lb : Array Value} (hg : a.eval g = .func (.func gf) #[] lb) (hFg : F.fn gf) (eg : ∀ args w, (callFunc gf args).run P w = .ok (.enter gf args) w)
    {enc : Nat → Array Value} {M b : Nat} (hit : Endless F (n - 1) P gf lb enc M w.heap.size b w) (hps : ∀ k, (enc k).size = ps.size) (hb : b < w.heap.size) (cx : Code)
    (I Ix : Nat → World → Prop) (hM : ∀ k W, I k W → k ≤ M)
    (hI : ∀ k A B r, I k A → w.heap.size ≤ r → r < w.heap.size + 3 → A.grownBy B (some r) → I k B)
    (hX : ∀ k A B r, Ix k A → w.heap.size ≤ r → r < w.heap.size + 3 → A.grownBy B (some r) → Ix k B) (h0 : I 0 w)
    (Ax : Nat → Act → World → Prop) (hAx : ∀ k a' A B r, Ax k a' A → w.heap.size ≤ r → r < w.heap.size + 3 → A.grownBy B (some r) → Ax k a' B)
    (hassign : ∀ (l k : Nat) (W : World) (K : Act → World → Prop), w.heap.size + 3 ≤ W.heap.size → I k W → (∀ a' W', Below W.heap.size W W' → Ax k a' W' → K a' W') →
      assign.wpIn (F.inRound l) (n - 1 - 1) P (Exit.then K (fun _ _ _ => False)) { tmps := (ps.zip (enc k)).foldl (fun t (p, v) => t.setIfInBounds p v) a.tmps, defers := [] } W)
    (hbody : ∀ (l k : Nat) (a' : Act) (W : World), w.heap.size + 3 ≤ W.heap.size → I k W → Ax k a' W → body.wpIn (F.inRound l) (n - 1 - 1) P (rfPost cx (w.heap.size + 3) b (I (k + 1)) (Ix k) W) a' W)
    (hstop : ∀ (k : Nat) (W : World), Ix k W → W.heap[w.heap.size]? = some (.deferred (some [])) → cx.wpIn F n P Q { a with defers := { target := .collected w.heap.size, args := #[] } :: a.defers } W) :
    (Code.rangeFunc g ps assign body).wpIn F n P Q a w := by
  refine wpIn_rangeFunc fun fn hfn => ?_
  rw [hro]
  -- the loop's record in its states
  obtain ⟨rc, hrc⟩ : ∃ rc : LoopState → Option Code → Loop, rc = fun s j => { state := s, pending := j, fn, tmps := a.tmps, params := ps, assign, body, defers := w.heap.size } := ⟨_, rfl⟩
  obtain ⟨V, hV⟩ : ∃ V, V = (w.alloc (.deferred (some []))).alloc (.loop (rc .ready none)) := ⟨_, rfl⟩
  have sV : V.heap.size = w.heap.size + 2 := by rw [hV]; simp
  have bV : Below w.heap.size w V := by rw [hV]; exact ((Below.refl _ _).alloc (Nat.le_refl _) _).alloc (by simp) _
  have lV : V.heap[w.heap.size + 1]? = some (.loop (rc .ready none)) := by
    rw [hV]; have := World.alloc_heap_new (w.alloc (.deferred (some []))) (.loop (rc .ready none)); rwa [World.size_alloc] at this
  have dV : V.heap[w.heap.size]? = some (.deferred (some [])) := by
    rw [hV, Below.heap_alloc _ _ _ (by simp)]; exact World.alloc_heap_new w _
  have iV : I 0 V := hI 0 w V w.heap.size h0 (Nat.le_refl _) (by omega) (gbb _ bV)
  -- the two blocks of book-keeping stay where one block is turned that is neither
  have keepL : ∀ {A B : World} {r : Nat} {o : Obj}, A.heap[w.heap.size + 1]? = some o → A.grownBy B (some r) → r ≠ w.heap.size + 1 → B.heap[w.heap.size + 1]? = some o := fun h hg hr =>
    (hg.block _ (Array.getElem?_eq_some_iff.1 h).1 (fun e => hr (by injection e with e; exact e.symm))).trans h
  have keepD : ∀ {A B : World} {r : Nat} {o : Obj}, A.heap[w.heap.size]? = some o → A.grownBy B (some r) → r ≠ w.heap.size → B.heap[w.heap.size]? = some o := fun h hg hr =>
    (hg.block _ (Array.getElem?_eq_some_iff.1 h).1 (fun e => hr (by injection e with e; exact e.symm))).trans h
  refine ⟨w.heap.size + 1, [{ target := .collected w.heap.size, args := #[] }], V, { target := .fn (.func gf) lb, args := #[.func (.yield (w.heap.size + 1)) #[] #[]] }, V, gf,
    #[.func (.yield (w.heap.size + 1)) #[] #[]] ++ lb, V, by rw [hV, hrc]; exact run_enterLoop_outer _ _ _ _ _, by simp only [resolve, hg]; simp [go_sem],
    fun f' hf' => by simp [Target.leads] at hf'; subst hf'; exact hFg, by simp [invoke, go_sem, eg], fun _ => h1, ?_⟩
  refine (hit (fun k W => I k W ∧ W.heap[w.heap.size + 1]? = some (.loop (rc .ready none)) ∧ W.heap[w.heap.size]? = some (.deferred (some [])))
    (fun W => ∃ k, Ix k W ∧ W.heap[w.heap.size + 1]? = some (.loop (rc .done (some cx))) ∧ W.heap[w.heap.size]? = some (.deferred (some [])))
    (w.heap.size + 1) V sV bV (fun k W h => hM k W h.1)
    (fun k A B h hg => ⟨hI k A B _ h.1 (by omega) (by omega) hg, keepL h.2.1 hg (by omega), keepD h.2.2 hg (by omega)⟩)
    (fun k A B h hb => ⟨hI k A B (w.heap.size + 2) h.1 (by omega) (by omega) (gbb _ hb), keepL h.2.1 (gbb (some (w.heap.size + 2)) hb) (by omega), keepD h.2.2 (gbb (some (w.heap.size + 2)) hb) (by omega)⟩)
    ?_ ⟨iV, lV, dV⟩).mono ?_
  · rintro k W1 ⟨hi, hl, hd⟩ hsz
    refine ⟨fn, _, assign, body, by have := run_yield (P := P) (args := enc k) hl (by rw [hrc]; exact hps k); rw [hrc] at this; exact this, roundIn_of_wpIn hfn (hassign _ k W1 _ hsz hi ?_)⟩
    intro a' W2 hb2 ha
    have g2 : W1.grownBy W2 (some w.heap.size) := gbb _ hb2
    have l2 : W2.heap[w.heap.size + 1]? = some (.loop (rc .ready none)) := keepL hl g2 (by omega)
    have d2 : W2.heap[w.heap.size]? = some (.deferred (some [])) := (hb2.block _ (Array.getElem?_eq_some_iff.1 hd).1).trans hd
    refine ⟨_, run_beginRound l2 (by rw [hrc]), ?_⟩
    obtain ⟨W3, hW3⟩ : ∃ W3, W3 = W2.putObj (w.heap.size + 1) (.loop { rc .ready none with state := .busy }) := ⟨_, rfl⟩
    have g3 : W2.grownBy W3 (some (w.heap.size + 1)) := by rw [hW3]; exact gb_put _ _ _
    have l3 : W3.heap[w.heap.size + 1]? = some (.loop { rc .ready none with state := .busy }) := by rw [hW3]; exact World.putObj_heap_same (Array.getElem?_eq_some_iff.1 l2).1
    have d3 : W3.heap[w.heap.size]? = some (.deferred (some [])) := keepD d2 g3 (by omega)
    have i3 : I k W3 := hI k W2 W3 _ (hI k W1 W2 _ hi (Nat.le_refl _) (by omega) g2) (by omega) (by omega) g3
    have z3 : w.heap.size + 3 ≤ W3.heap.size := Nat.le_trans hsz (Nat.le_trans hb2.size g3.size)
    rw [← hW3]
    refine wpIn_mono (hbody _ k a' W3 z3 i3 (hAx k a' W2 W3 _ ha (by omega) (by omega) g3)) ?_
    -- behind the body
    have fin : ∀ (j : Option Code) (W4 : World), Chg (w.heap.size + 3) b W3 W4 →
        (Instr.endRound (w.heap.size + 1) j).run P W4 = .ok (.bool j.isNone) (W4.putObj (w.heap.size + 1) (.loop (rc (if j.isNone then .ready else .done) j))) ∧
        (W4.putObj (w.heap.size + 1) (.loop (rc (if j.isNone then .ready else .done) j))).heap[w.heap.size + 1]? = some (.loop (rc (if j.isNone then .ready else .done) j)) ∧
        (W4.putObj (w.heap.size + 1) (.loop (rc (if j.isNone then .ready else .done) j))).heap[w.heap.size]? = some (.deferred (some [])) := fun j W4 hc => by
      have l4 := (hc.block (w.heap.size + 1) (by omega) (by omega)).trans l3
      have d4 := (hc.block w.heap.size (by omega) (by omega)).trans d3
      have e := run_endRound (P := P) j l4
      rw [hrc] at e ⊢
      exact ⟨e, World.putObj_heap_same (Array.getElem?_eq_some_iff.1 l4).1, (World.putObj_heap_other (by omega)).trans d4⟩
    rintro e a3 W4 hp
    cases e with
    | normal =>
      obtain ⟨hc, hi4⟩ := hp
      obtain ⟨hr, hl5, hd5⟩ := fin none W4 hc
      refine ⟨_, _, hr, .inl ⟨rfl, ⟨hI _ W4 _ _ hi4 (by omega) (by omega) (gb_put _ _ _), hl5, hd5⟩, ?_⟩⟩
      refine ⟨hc.os.trans (g3.os.trans hb2.os), hc.tape.trans (g3.tape.trans hb2.tape), hc.output.trans (g3.output.trans hb2.output), by have h2 := hc.size; have h3 := g3.size; have h4 := hb2.size; simp; omega, fun i hi hn => ?_⟩
      by_cases e : i = w.heap.size + 1
      · subst e; exact hl5.trans hl.symm
      · rw [World.putObj_heap_other e, hc.block i hi hn, g3.block i (by have h3 := hb2.size; omega) (by intro h; injection h with h; exact e h), hb2.block i (by omega)]
    | exit i =>
      obtain ⟨rfl, hc, hx4⟩ := hp
      obtain ⟨hr, hl5, hd5⟩ := fin (some (.exit i)) W4 hc
      exact ⟨_, _, hr, .inr ⟨rfl, k, hX _ W4 _ _ hx4 (by omega) (by omega) (gb_put _ _ _), hl5, hd5⟩⟩
    | ret => exact hp.elim
    | goto t => exact hp.elim
    | panic c => exact hp.elim
    | outgrown => exact hp.elim
  · rintro e W2 ⟨⟨v, rfl⟩, k, hx, hl, hd⟩
    exact ⟨some cx, _, by have := run_endLoop (P := P) hl (by rw [hrc]; simp); rw [hrc] at this; exact this, hstop k _ (hX k W2 _ _ hx (by omega) (by omega) (gb_put _ _ _)) ((World.putObj_heap_other (by omega)).trans hd)⟩
end Go.Proofs.Ytddlpbpcdjddpaa
