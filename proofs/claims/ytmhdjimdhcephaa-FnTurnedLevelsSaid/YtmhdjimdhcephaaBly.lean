/- WriteByte of a builder whose bytes lie beyond a number: with what an iterator's round must keep. -/
import Derived.Test.YtmhdjimdhcephaaBlr
import Derived.RangeFuncFrom
import Derived.RangeFuncOwn
namespace Go.Proofs.Ytmhdjimdhcephaa
open Go Go.RowKit
set_option linter.unusedVariables false

/-- The block of an own row is cells. -/
theorem own_cells {w : World} {B : Nat} {e : TypeId} {v : Value} {n : Nat} {xs : List Value} (h : w.ownsRow B e 1 v n xs) (j : Nat) (o : Obj) (hj : v.ownBlock = some j) (ho : w.heap[j]? = some o) : o.isCells = true := by
  rcases h.2 with ⟨rfl, _⟩ | ⟨g, cap, cur, rfl, _, hg, _⟩
  · simp [Value.ownBlock] at hj
  · have e : g = j := by simpa [Value.ownBlock] using hj
    subst e
    rw [hg] at ho
    injection ho with ho
    subst ho; rfl
/-- A step that makes memory, or turns what is no memory, far up. -/
theorem BlR.own {lo b : Nat} {bs : List Value} {w w' : World} {row : Option Nat} (h : BlR lo b bs w) (hg : w.grownBy w' row) (hr : ∀ r, row = some r → lo ≤ r ∧ ∃ o : Obj, w.heap[r]? = some o ∧ o.isCells = false) : BlR lo b bs w' := by
  have hl := h.lt
  obtain ⟨p, v, hp, hb, hown, hlo⟩ := h
  refine ⟨p, v, hp, (hg.block b hl (fun x => by have := (hr b x.symm).1; omega)).trans hb, hown.kept hg ?_, hlo⟩
  cases row with
  | none => cases v.ownBlock <;> simp
  | some r =>
    refine Or.inr (fun x => ?_)
    obtain ⟨h1, o, ho, hc⟩ := hr r rfl
    rw [own_cells hown r o x ho] at hc
    cases hc
theorem Chg.own {lo b : Nat} {w0 w w' : World} {row : Option Nat} (h : Chg lo b w0 w) (hl : lo ≤ w.heap.size) (hg : w.grownBy w' row) (hr : ∀ r, row = some r → lo ≤ r ∧ ∃ o : Obj, w.heap[r]? = some o ∧ o.isCells = false) : Chg lo b w0 w' :=
  h.trans ⟨hg.os, hg.tape, hg.output, hg.size, fun k hk _ => hg.block k (by omega) (fun x => by have := (hr k x.symm).1; omega)⟩
theorem keeps_below {w w' : World} (h : Below w.heap.size w w') : KeepsOthers w w' :=
  ⟨h.size, fun k o hk _ => (h.block k (Array.getElem?_eq_some_iff.1 hk).1).trans hk⟩
theorem bly_check (lo b : Nat) (bs : List Value) (w : World) (h : BlR lo b bs w) :
    Calls Try.prog 93 #[.pointer (some ⟨b, 0, none⟩)] w fun e w' => e = .returned (.tuple #[]) ∧ (∃ v, w'.heap[b]? = some (.cells #[.pointer (some ⟨b, 0, none⟩), v] 69 (0, 0)) ∧ w'.ownsRow lo 5 1 v bs.length bs ∧ v.ownBlock ≠ some b) ∧ Chg lo b w w' ∧ KeepsOthers w w' := by
  obtain ⟨p, v, hp, hb, hown, hlo⟩ := h
  have hne : v.ownBlock ≠ some b := fun x => by have := (hown.lt b x).1; omega
  rcases hp with rfl | rfl
  · refine (bld_check_fresh b w (by rw [Lib.cell_of_heap hb]; rfl) (by simp [World.shape?, hb]) (Lib.frozen_of_heap hb 0)).mono ?_
    rintro e w' ⟨rfl, rfl⟩
    refine ⟨rfl, ⟨v, ?_, ?_, hne⟩, Chg.of_set _ _ _, KeepsOthers.setCell _ _ _⟩
    · simp [World.setCell, Array.getElem?_modify, hb]
    · exact hown.kept (row := some b) ⟨rfl, rfl, rfl, by simp [World.setCell], fun k _ hk => Below.heap_setCell _ _ _ _ (fun e => hk (by simp [e]))⟩ (Or.inr hne)
  · refine (bld_check_used b w (by rw [Lib.cell_of_heap hb]; rfl)).mono ?_
    rintro e w' ⟨rfl, rfl⟩
    exact ⟨rfl, ⟨v, hb, hown, hne⟩, Chg.of_below (Below.refl lo _) (Nat.le_refl _), KeepsOthers.refl _⟩
set_option maxHeartbeats 2000000 in
set_option maxRecDepth 100000 in
theorem bly_b (lo b : Nat) (bs : List Value) (c : Int) (w : World) (h : BlR lo b bs w) (hlen : bs.length + 1 ≤ 140737488355328) (hlw : lo ≤ w.heap.size) :
    Calls Try.prog 65 #[.pointer (some ⟨b, 0, none⟩), .int .u8 c] w fun e w' => e = .returned .nilIface ∧ BlR lo b (bs ++ [.int .u8 c]) w' ∧ Chg lo b w w' ∧ KeepsOthers w w' := by
  obtain ⟨i0, hi, hz0, hz1, hz2⟩ := info_parts bld_byte
  have hblo : b < lo := by obtain ⟨_, _, _, _, _, h'⟩ := h; exact h'
  go_enter Try.func65, Try.ntmps65
  go_wp2_with fail
  refine (bly_check lo b bs _ h).mono ?_
  rintro e w1 ⟨rfl, ⟨v, hbk, hown, hne⟩, hc1, hk1⟩
  have hs1 := hc1.size
  have c0 : w1.cell? ⟨b, 0, none⟩ = some (.pointer (some ⟨b, 0, none⟩)) := by rw [Lib.cell_of_heap hbk]; rfl
  have c1 : w1.cell? ⟨b, 1, none⟩ = some v := by rw [Lib.cell_of_heap hbk]; rfl
  go_wp2_with (at_builtin; refine wpList_append_own _ rfl _ _ 45 rfl lo 5 i0 (.int .u8 0) 1 1 Try.underlying45 hi hz0 hz1 hz2 rfl (by decide) _ _ _ rfl (hown.alloc _) ⟨w1.heap.size, 0, none⟩ 1 1 [.int .u8 c] rfl rfl ?c1 ?c2 ?c3 ?c4 ?c5 ?_)
  case c1 => exact c1_byte _ _ _
  case c2 => intro u hu; simp at hu; subst hu; rfl
  case c3 => unfold maxLen; omega
  case c4 => omega
  case c5 => simp; omega
  intro v' w2 hown' hgrow _
  have hlt : b < w1.heap.size := by
    rcases Nat.lt_or_ge b w1.heap.size with h' | h'
    · exact h'
    · simp [Array.getElem?_eq_none h'] at hbk
  have hb2 : w2.heap[b]? = some (.cells #[.pointer (some ⟨b, 0, none⟩), v] 69 (0, 0)) := by
    rw [hgrow.block b (by simp; omega) (fun e => hne e.symm), Lib.alloc_old _ _ _ hlt]
    exact hbk
  have d0 : w2.cell? ⟨b, 0, none⟩ = some (.pointer (some ⟨b, 0, none⟩)) := by rw [Lib.cell_of_heap hb2]; rfl
  have d1 : w2.cell? ⟨b, 1, none⟩ = some v := by rw [Lib.cell_of_heap hb2]; rfl
  have f1 : w2.frozen? ⟨b, 1, none⟩ = false := Lib.frozen_of_heap hb2 1
  obtain ⟨ao, n', cap, rfl⟩ : ∃ ao n' cap, v' = .slice ao n' cap := by
    rcases hown'.2 with ⟨hv, _⟩ | ⟨g, cap, cur, hv, _⟩
    · exact ⟨_, _, _, hv⟩
    · exact ⟨_, _, _, hv⟩
  go_wp2
  go_ret
  refine ⟨rfl, ?_, ?_, ?_⟩
  · exact blr_put hb2 hblo (bs' := bs ++ [.int .u8 c]) (by simpa using hown')
  · exact ((hc1.trans (Chg.of_below (B := w1.heap.size) ((Below.refl _ _).alloc (Nat.le_refl _) _) (by omega))).trans (Chg.of_grown (hown.alloc _) hgrow (by simp; omega))).trans (Chg.of_set _ _ _)
  · exact ((hk1.trans (KeepsOthers.alloc _ _)).trans (KeepsOthers.of_grownBy hgrow (own_cells (hown.alloc _)))).trans (KeepsOthers.setCell _ _ _)
end Go.Proofs.Ytmhdjimdhcephaa
