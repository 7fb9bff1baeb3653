/- A strings.Builder whose bytes lie beyond a number: WriteByte, WriteString, Len, String; all below the number but the builder itself is left. -/
import Derived.Test.YtddlpbpcdjddpaaBwb
namespace Go.Proofs.Ytddlpbpcdjddpaa
open Go Go.RowKit
set_option linter.unusedVariables false

/-- Below the number lo, a step turns no block but b. -/
structure Chg (lo b : Nat) (w w' : World) : Prop where
  os : w'.os = w.os
  tape : w'.tape = w.tape
  output : w'.output = w.output
  size : w.heap.size ≤ w'.heap.size
  block : ∀ k, k < lo → k ≠ b → w'.heap[k]? = w.heap[k]?
theorem Chg.trans {lo b : Nat} {w w1 w2 : World} (h : Chg lo b w w1) (k : Chg lo b w1 w2) : Chg lo b w w2 :=
  ⟨k.os.trans h.os, k.tape.trans h.tape, k.output.trans h.output, Nat.le_trans h.size k.size, fun j hj hn => (k.block j hj hn).trans (h.block j hj hn)⟩
theorem Chg.of_below {lo b B : Nat} {w w' : World} (hb : Below B w w') (hl : lo ≤ B) : Chg lo b w w' := ⟨hb.os, hb.tape, hb.output, hb.size, fun j hj _ => hb.block j (by omega)⟩
theorem Chg.of_set {lo b : Nat} (w : World) (j : Nat) (x : Value) : Chg lo b w (w.setCell ⟨b, j, none⟩ x) :=
  ⟨rfl, rfl, rfl, by simp [World.setCell], fun k hk hn => Below.heap_setCell _ _ _ _ (fun h => hn h)⟩
theorem Chg.of_grown {lo b n : Nat} {w w' : World} {e : TypeId} {v : Value} {xs : List Value} (hown : w.ownsRow lo e 1 v n xs) (hg : w.grownBy w' v.ownBlock) (hl : lo ≤ w.heap.size) : Chg lo b w w' :=
  ⟨hg.os, hg.tape, hg.output, hg.size, fun j hj _ => hg.block j (by omega) (fun x => by have := (hown.lt j x.symm).1; omega)⟩
theorem Chg.of_gb {lo b : Nat} {w w' : World} (hg : w.grownBy w' (some b)) (hl : lo ≤ w.heap.size) : Chg lo b w w' := ⟨hg.os, hg.tape, hg.output, hg.size, fun j hj hn => hg.block j (by omega) (fun x => hn (by injection x))⟩
theorem Chg.below {lo b B : Nat} {w w' : World} (h : Chg lo b w w') (hB : B ≤ b) (hl : B ≤ lo) : Below B w w' := ⟨h.os, h.tape, h.output, h.size, fun k hk => h.block k (by omega) (by omega)⟩
theorem Blk.chg {lo b k : Nat} {w w' : World} {T : TypeId} {cs : List Value} (h : Blk w k T cs) (hc : Chg lo b w w') (hk : k < lo) (hn : k ≠ b) : Blk w' k T cs := (hc.block k hk hn).trans h

/-- A builder in the block b, whose bytes lie from lo on. -/
def BlR (lo b : Nat) (bs : List Value) (w : World) : Prop :=
  ∃ p v, (p = .pointer none ∨ p = .pointer (some ⟨b, 0, none⟩)) ∧ w.heap[b]? = some (.cells #[p, v] 84 (0, 0)) ∧ w.ownsRow lo 5 1 v bs.length bs ∧ b < lo
theorem BlR.lt {lo b : Nat} {bs : List Value} {w : World} (h : BlR lo b bs w) : b < w.heap.size := by
  obtain ⟨p, v, _, hb, _⟩ := h
  rcases Nat.lt_or_ge b w.heap.size with h' | h'
  · exact h'
  · rw [Array.getElem?_eq_none h'] at hb; cases hb
theorem BlR.chg {lo b k : Nat} {bs : List Value} {w w' : World} (h : BlR lo b bs w) (hg : w.grownBy w' (some k)) (hk : k < lo) (hn : k ≠ b) : BlR lo b bs w' := by
  have hl := h.lt
  obtain ⟨p, v, hp, hb, hown, hlo⟩ := h
  refine ⟨p, v, hp, (hg.block b hl (fun x => hn (by injection x with x; exact x.symm))).trans hb, hown.kept hg (Or.inr (fun x => ?_)), hlo⟩
  have := (hown.lt k x).1
  omega
theorem BlR.keep {lo b : Nat} {bs : List Value} {w w' : World} (h : BlR lo b bs w) (hb : Below w.heap.size w w') : BlR lo b bs w' := by
  have hl := h.lt
  obtain ⟨p, v, hp, hbk, hown, hlo⟩ := h
  exact ⟨p, v, hp, (hb.block b hl).trans hbk, hown.kept (row := none) ⟨hb.os, hb.tape, hb.output, hb.size, fun j hj _ => hb.block j hj⟩ (by cases v.ownBlock <;> simp), hlo⟩
theorem BlR.start {lo b : Nat} {w : World} (h : Blk w b 84 [.pointer none, .slice none 0 0]) (hlo : b < lo) : BlR lo b [] w :=
  ⟨.pointer none, .slice none 0 0, .inl rfl, h, World.ownsRow_nil _ _ _ _, hlo⟩
theorem BlR.isB {lo b : Nat} {bs : List Value} {w : World} (h : BlR lo b bs w) : Lib.IsBuilder 84 5 b b bs w := by
  obtain ⟨p, v, hp, hb, hown, hlo⟩ := h
  have hne : v.ownBlock ≠ some b := fun x => by have := (hown.lt b x).1; omega
  have hown2 : w.ownsRow b 5 1 v bs.length bs := by
    refine ⟨hown.1, ?_⟩
    rcases hown.2 with h' | ⟨g, cap, cur, h1, h2, h3⟩
    · exact .inl h'
    · exact .inr ⟨g, cap, cur, h1, by omega, h3⟩
  rcases hp with rfl | rfl
  · exact .inl ⟨Nat.le_refl _, v, hb, hown2, hne⟩
  · exact .inr ⟨Nat.le_refl _, v, hb, hown2, hne⟩

theorem blr_check (lo b : Nat) (bs : List Value) (w : World) (h : BlR lo b bs w) :
    Calls Try.prog 85 #[.pointer (some ⟨b, 0, none⟩)] w fun e w' => e = .returned (.tuple #[]) ∧ (∃ v, w'.heap[b]? = some (.cells #[.pointer (some ⟨b, 0, none⟩), v] 84 (0, 0)) ∧ w'.ownsRow lo 5 1 v bs.length bs ∧ v.ownBlock ≠ some b) ∧ Chg lo b w w' := by
  obtain ⟨p, v, hp, hb, hown, hlo⟩ := h
  have hne : v.ownBlock ≠ some b := fun x => by have := (hown.lt b x).1; omega
  rcases hp with rfl | rfl
  · refine (bld_check_fresh b w (by rw [Lib.cell_of_heap hb]; rfl) (by simp [World.shape?, hb]) (Lib.frozen_of_heap hb 0)).mono ?_
    rintro e w' ⟨rfl, rfl⟩
    refine ⟨rfl, ⟨v, ?_, ?_, hne⟩, Chg.of_set _ _ _⟩
    · simp [World.setCell, Array.getElem?_modify, hb]
    · exact hown.kept (row := some b) ⟨rfl, rfl, rfl, by simp [World.setCell], fun k _ hk => Below.heap_setCell _ _ _ _ (fun e => hk (by simp [e]))⟩ (Or.inr hne)
  · refine (bld_check_used b w (by rw [Lib.cell_of_heap hb]; rfl)).mono ?_
    rintro e w' ⟨rfl, rfl⟩
    exact ⟨rfl, ⟨v, hb, hown, hne⟩, Chg.of_below (Below.refl lo _) (Nat.le_refl _)⟩
theorem blr_put {lo b : Nat} {v v' : Value} {bs' : List Value} {w : World} (hb : w.heap[b]? = some (.cells #[.pointer (some ⟨b, 0, none⟩), v] 84 (0, 0))) (hlo : b < lo) (hown : w.ownsRow lo 5 1 v' bs'.length bs') :
    BlR lo b bs' (w.setCell ⟨b, 1, none⟩ v') := by
  have hne : v'.ownBlock ≠ some b := fun x => by have := (hown.lt b x).1; omega
  refine ⟨_, v', .inr rfl, ?_, ?_, hlo⟩
  · simp [World.setCell, Array.getElem?_modify, hb]
  · exact hown.kept (row := some b) ⟨rfl, rfl, rfl, by simp [World.setCell], fun k _ hk => Below.heap_setCell _ _ _ _ (fun e => hk (by simp [e]))⟩ (Or.inr hne)

set_option maxHeartbeats 2000000 in
set_option maxRecDepth 100000 in
theorem blr_b (lo b : Nat) (bs : List Value) (c : Int) (w : World) (h : BlR lo b bs w) (hlen : bs.length + 1 ≤ 140737488355328) (hlw : lo ≤ w.heap.size) :
    Calls Try.prog 66 #[.pointer (some ⟨b, 0, none⟩), .int .u8 c] w fun e w' => e = .returned .nilIface ∧ BlR lo b (bs ++ [.int .u8 c]) w' ∧ Chg lo b w w' := by
  obtain ⟨i0, hi, hz0, hz1, hz2⟩ := info_parts bld_byte
  have hblo : b < lo := by obtain ⟨_, _, _, _, _, h'⟩ := h; exact h'
  go_enter Try.func66, Try.ntmps66
  go_wp2_with fail
  refine (blr_check lo b bs _ h).mono ?_
  rintro e w1 ⟨rfl, ⟨v, hbk, hown, hne⟩, hc1⟩
  have hs1 := hc1.size
  have c0 : w1.cell? ⟨b, 0, none⟩ = some (.pointer (some ⟨b, 0, none⟩)) := by rw [Lib.cell_of_heap hbk]; rfl
  have c1 : w1.cell? ⟨b, 1, none⟩ = some v := by rw [Lib.cell_of_heap hbk]; rfl
  go_wp2_with (at_builtin; refine wpList_append_own _ rfl _ _ 41 rfl lo 5 i0 (.int .u8 0) 1 1 Try.underlying41 hi hz0 hz1 hz2 rfl (by decide) _ _ _ rfl (hown.alloc _) ⟨w1.heap.size, 0, none⟩ 1 1 [.int .u8 c] rfl rfl ?c1 ?c2 ?c3 ?c4 ?c5 ?_)
  case c1 => exact c1_byte _ _ _
  case c2 => intro u hu; simp at hu; subst hu; rfl
  case c3 => unfold maxLen; omega
  case c4 => omega
  case c5 => simp; omega
  intro v' w2 hown' hgrow _
  have hlt : b < w1.heap.size := by
    rcases Nat.lt_or_ge b w1.heap.size with h' | h'
    · exact h'
    · simp [Array.getElem?_eq_none h'] at hbk
  have hb2 : w2.heap[b]? = some (.cells #[.pointer (some ⟨b, 0, none⟩), v] 84 (0, 0)) := by
    rw [hgrow.block b (by simp; omega) (fun e => hne e.symm), Lib.alloc_old _ _ _ hlt]
    exact hbk
  have d0 : w2.cell? ⟨b, 0, none⟩ = some (.pointer (some ⟨b, 0, none⟩)) := by rw [Lib.cell_of_heap hb2]; rfl
  have d1 : w2.cell? ⟨b, 1, none⟩ = some v := by rw [Lib.cell_of_heap hb2]; rfl
  have f1 : w2.frozen? ⟨b, 1, none⟩ = false := Lib.frozen_of_heap hb2 1
  obtain ⟨ao, n', cap, rfl⟩ : ∃ ao n' cap, v' = .slice ao n' cap := by
    rcases hown'.2 with ⟨hv, _⟩ | ⟨g, cap, cur, hv, _⟩
    · exact ⟨_, _, _, hv⟩
    · exact ⟨_, _, _, hv⟩
  go_wp2
  go_ret
  refine ⟨rfl, ?_, ?_⟩
  · exact blr_put hb2 hblo (bs' := bs ++ [.int .u8 c]) (by simpa using hown')
  · exact ((hc1.trans (Chg.of_below (B := w1.heap.size) ((Below.refl _ _).alloc (Nat.le_refl _) _) (by omega))).trans (Chg.of_grown (hown.alloc _) hgrow (by simp; omega))).trans (Chg.of_set _ _ _)

set_option maxHeartbeats 2000000 in
set_option maxRecDepth 100000 in
theorem blr_w (lo b : Nat) (bs : List Value) (s : ByteArray) (w : World) (h : BlR lo b bs w) (hlen : bs.length + s.size ≤ 140737488355328) (hlw : lo ≤ w.heap.size) :
    Calls Try.prog 75 #[.pointer (some ⟨b, 0, none⟩), .string s] w fun e w' => e = .returned (.tuple #[.int .i64 s.size, .nilIface]) ∧ BlR lo b (bs ++ Lib.strCells s) w' ∧ Chg lo b w w' := by
  obtain ⟨i0, hi, hz0, hz1, hz2⟩ := info_parts bld_byte
  have hblo : b < lo := by obtain ⟨_, _, _, _, _, h'⟩ := h; exact h'
  go_enter Try.func75, Try.ntmps75
  go_wp2_with fail
  refine (blr_check lo b bs _ h).mono ?_
  rintro e w1 ⟨rfl, ⟨v, hbk, hown, hne⟩, hc1⟩
  have hs1 := hc1.size
  have c0 : w1.cell? ⟨b, 0, none⟩ = some (.pointer (some ⟨b, 0, none⟩)) := by rw [Lib.cell_of_heap hbk]; rfl
  have c1 : w1.cell? ⟨b, 1, none⟩ = some v := by rw [Lib.cell_of_heap hbk]; rfl
  go_wp2_with (at_builtin; refine Lib.wpList_append_own_string _ rfl _ _ 41 9 rfl lo 5 i0 Try.underlying41 Try.underlying9 hi hz0 hz1 hz2 _ _ _ rfl hown s rfl ?c3 ?c4 ?c5 ?_)
  case c3 => unfold maxLen; omega
  case c4 => omega
  case c5 => omega
  intro v' w2 hown' hgrow _
  have hlt : b < w1.heap.size := by
    rcases Nat.lt_or_ge b w1.heap.size with h' | h'
    · exact h'
    · simp [Array.getElem?_eq_none h'] at hbk
  have hb2 : w2.heap[b]? = some (.cells #[.pointer (some ⟨b, 0, none⟩), v] 84 (0, 0)) := by
    rw [hgrow.block b hlt (fun e => hne e.symm)]
    exact hbk
  have d0 : w2.cell? ⟨b, 0, none⟩ = some (.pointer (some ⟨b, 0, none⟩)) := by rw [Lib.cell_of_heap hb2]; rfl
  have d1 : w2.cell? ⟨b, 1, none⟩ = some v := by rw [Lib.cell_of_heap hb2]; rfl
  have f1 : w2.frozen? ⟨b, 1, none⟩ = false := Lib.frozen_of_heap hb2 1
  obtain ⟨ao, n', cap, rfl⟩ : ∃ ao n' cap, v' = .slice ao n' cap := by
    rcases hown'.2 with ⟨hv, _⟩ | ⟨g, cap, cur, hv, _⟩
    · exact ⟨_, _, _, hv⟩
    · exact ⟨_, _, _, hv⟩
  go_wp2
  go_ret2
  refine ⟨rfl, ?_, ?_⟩
  · exact blr_put hb2 hblo (bs' := bs ++ Lib.strCells s) (by simpa [Lib.strCells_length] using hown')
  · exact (hc1.trans (Chg.of_grown hown hgrow (by omega))).trans (Chg.of_set _ _ _)
theorem blr_len (lo b : Nat) (bs : List Value) (w : World) (h : BlR lo b bs w) (hlen : bs.length ≤ 140737488355328) :
    Calls Try.prog 76 #[.pointer (some ⟨b, 0, none⟩)] w fun e w' => e = .returned (.int .i64 bs.length) ∧ w = w' := bld_len _ _ _ _ h.isB hlen
end Go.Proofs.Ytddlpbpcdjddpaa
