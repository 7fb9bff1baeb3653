/- The source of draws of the model: what its calls give. -/
import Derived.Test.YtddlpbpcdjddpaaRdv
import Derived.Test.YtddlpbpcdjddpaaInts
import Derived.Laws.IdiomStrings
import Derived.ChangeSlices
import Derived.Laws.BitsAllLaws
namespace Go.Proofs.Ytddlpbpcdjddpaa
open Go Go.RowKit
set_option linter.unusedVariables false

/-- A source of draws in the block k: it reads the bytes l at v, which lie below B, and has drawn at most n. -/
structure Src (B : Nat) (v : Value) (l : List Value) (k n : Nat) (W : World) : Prop where
  low : B ≤ k
  cells : ∃ a z : Int, Blk W k 109 [v, .int .i64 a, .int .u64 z] ∧ 0 ≤ a ∧ a ≤ n
  rd : RdV (· < B) W v l
  byt : ∀ x ∈ l, ∃ y : Int, x = .int .u8 y ∧ 0 ≤ y ∧ y ≤ 255
theorem Src.more {B : Nat} {v : Value} {l : List Value} {k n m : Nat} {W : World} (h : Src B v l k n W) (hm : n ≤ m) : Src B v l k m W := by
  obtain ⟨a, z, h1, h2, h3⟩ := h.cells
  exact ⟨h.low, ⟨a, z, h1, h2, by omega⟩, h.rd, h.byt⟩
theorem Src.keep {B : Nat} {v : Value} {l : List Value} {k n : Nat} {W W' : World} (h : Src B v l k n W) (hb : Below W.heap.size W W') : Src B v l k n W' := by
  obtain ⟨a, z, h1, h2⟩ := h.cells
  exact ⟨h.low, ⟨a, z, h1.keep hb, h2⟩, h.rd.keep hb, h.byt⟩
theorem Src.lt {B : Nat} {v : Value} {l : List Value} {k n : Nat} {W : World} (h : Src B v l k n W) : k < W.heap.size := by
  obtain ⟨a, z, h1, h2⟩ := h.cells
  exact h1.lt
theorem Src.grown {B : Nat} {v : Value} {l : List Value} {k n : Nat} {W W' : World} {row : Option Nat} (h : Src B v l k n W) (hg : W.grownBy W' row) (hne : ∀ j, row = some j → B ≤ j ∧ j ≠ k) : Src B v l k n W' := by
  obtain ⟨a, z, h1, h2⟩ := h.cells
  refine ⟨h.low, ⟨a, z, h1.grown hg (fun e => (hne k e).2 rfl), h2⟩, h.rd.same (fun b hb hl => hg.block b hl (fun e => ?_)) hg.size, h.byt⟩
  have := (hne b e.symm).1
  omega
theorem gk_drewN {w : World} {row : Option Nat} (q : Nat) : w.grownBy (w.drewN q) row := ⟨rfl, rfl, rfl, Nat.le_refl _, fun _ _ _ => rfl⟩
theorem gk_trans {w w1 w2 : World} {k : Nat} (h : w.grownBy w1 (some k)) (g : w1.grownBy w2 (some k)) : w.grownBy w2 (some k) :=
  ⟨g.os.trans h.os, g.tape.trans h.tape, g.output.trans h.output, Nat.le_trans h.size g.size, fun j hj hn => (g.block j (Nat.lt_of_lt_of_le hj h.size) hn).trans (h.block j hj hn)⟩
theorem gk_set {w : World} (b j : Nat) (x : Value) : w.grownBy (w.setCell ⟨b, j, none⟩ x) (some b) :=
  ⟨rfl, rfl, rfl, by simp [World.setCell], fun k hk hne => Below.heap_setCell _ _ _ _ (by intro e; exact hne (by rw [e]))⟩
theorem gk_below {w w1 : World} {row : Option Nat} (hb : Below w.heap.size w w1) : w.grownBy w1 row := ⟨hb.os, hb.tape, hb.output, hb.size, fun k hk _ => hb.block k hk⟩
/-- Below the source's block nothing has turned. -/
theorem gk_to {B k : Nat} {w w1 w2 : World} (h : Below B w w1) (g : w1.grownBy w2 (some k)) (hB : B ≤ w1.heap.size) (hk : B ≤ k) : Below B w w2 := h.grown g hB (fun j hj => by injection hj with hj; omega)
theorem u64_and255 (x : Int) : 0 ≤ wrap64 (bits BinOp.and IntKind.u64 (IntKind.u64.wrap x / 1099511627776) 255) ∧ wrap64 (bits BinOp.and IntKind.u64 (IntKind.u64.wrap x / 1099511627776) 255) ≤ 255 := by
  have h : 0 ≤ IntKind.u64.wrap x ∧ IntKind.u64.wrap x < 18446744073709551616 := by
    have e : IntKind.u64.wrap x = x % 18446744073709551616 := by unfold IntKind.wrap; simp [IntKind.signed, IntKind.bits]
    rw [e]; omega
  generalize IntKind.u64.wrap x = y at h
  rw [u64_and _ _ (by omega) (by omega) (by decide) (by decide)]
  have h2 : ((y / 1099511627776).toNat &&& (255 : Int).toNat) ≤ 255 := Nat.and_le_right
  generalize ((y / 1099511627776).toNat &&& (255 : Int).toNat) = z at h2
  have e : wrap64 (z : Int) = z := by unfold wrap64; omega
  rw [e]; omega
theorem src_step {B : Nat} {v : Value} {l : List Value} {k n : Nat} {W : World} {a z : Int} (hk : Blk W k 109 [v, .int .i64 a, .int .u64 z]) (h0 : 0 ≤ a ∧ a ≤ n) (h : Src B v l k n W) (p q : Nat) (x y : Int) (hx : a + 1 = x) :
    Src B v l k (n + 1) ((((W.drewN p).setCell ⟨k, 1, none⟩ (.int .i64 x)).setCell ⟨k, 2, none⟩ (.int .u64 y)).drewN q) ∧ W.grownBy ((((W.drewN p).setCell ⟨k, 1, none⟩ (.int .i64 x)).setCell ⟨k, 2, none⟩ (.int .u64 y)).drewN q) (some k) := by
  have hg : W.grownBy ((((W.drewN p).setCell ⟨k, 1, none⟩ (.int .i64 x)).setCell ⟨k, 2, none⟩ (.int .u64 y)).drewN q) (some k) :=
    gk_trans (gk_drewN p) (gk_trans (gk_set k 1 _) (gk_trans (gk_set k 2 _) (gk_drewN q)))
  refine ⟨⟨h.low, ⟨x, y, (((hk.drewN p).set 1 _).set 2 _).drewN q, by omega, by omega⟩, h.rd.same (fun b hb hl => hg.block b hl (fun e => ?_)) hg.size, h.byt⟩, hg⟩
  injection e with e
  have := h.low
  omega

set_option maxHeartbeats 1000000 in
set_option maxRecDepth 100000 in
theorem src_next (B : Nat) (v : Value) (l : List Value) (k n : Nat) (W : World) (hn : n ≤ 1000000) (h : Src B v l k n W) :
    Calls Try.prog 84 #[.pointer (some ⟨k, 0, none⟩)] W fun e w' => ∃ r : Int, e = .returned (.int .i64 r) ∧ (0 ≤ r ∧ r ≤ 255) ∧ Src B v l k (n + 1) w' ∧ W.grownBy w' (some k) := by
  have hlow := h.low
  have hrd := h.rd
  have hby := h.byt
  obtain ⟨a, z, hk, h0, h1⟩ := h.cells
  obtain ⟨A, m, c, rfl, hm, hc, hx, hr⟩ := hrd
  have HK := Lib.hid hk
  have q0 := hk.cell 0 _ rfl
  have q1 := hk.cell 1 _ rfl
  have q2 := hk.cell 2 _ rfl
  have f1 := hk.frozen 1
  have f2 := hk.frozen 2
  have hml : m ≤ 9223372036854775807 := by unfold maxLen at hx; omega
  have wa : IntKind.i64.wrap (a + 1) = a + 1 := IntWalk.i64_in _ (by omega)
  have HF := Lib.hid (src_step hk ⟨h0, h1⟩ h)
  by_cases hlt : a < (m : Int)
  · obtain ⟨b, o, rfl, hb, hbl, hcell⟩ := hr (by omega)
    obtain ⟨j, rfl⟩ : ∃ j : Nat, a = (j : Int) := ⟨a.toNat, by omega⟩
    have hj : j < l.length := by omega
    obtain ⟨y, hy, hy0, hy1⟩ := hby _ (List.getElem_mem hj)
    have hcj := hcell j (.int .u8 y) (by rw [List.getElem?_eq_getElem hj, hy])
    have hle : (j : Int) + 1 ≤ (m : Int) := by omega
    have hne : b ≠ k := by omega
    have HY := Lib.hid (And.intro hy0 hy1)
    clear hr hby hcell hk h hy hm
    go_enter Try.func84, Try.ntmps84
    go_wp2_with fail
    go_quiet (fail)
    go_wp2_with fail
    go_quiet (fail)
    go_wp2_with fail
    go_quiet (fail)
    go_wp2_with fail
    go_ret
    exact ⟨_, rfl, HY.out, HF.out _ _ _ _ rfl⟩
  · have hge : (m : Int) ≤ a := by omega
    have hgt : ¬ a + 1 ≤ (m : Int) := by omega
    clear hr hby hk h
    go_enter Try.func84, Try.ntmps84
    go_wp2_with fail
    go_quiet (fail)
    go_wp2_with fail
    go_quiet (fail)
    go_wp2_with fail
    go_ret
    exact ⟨_, rfl, u64_and255 _, HF.out _ _ _ _ rfl⟩

set_option maxHeartbeats 1000000 in
set_option maxRecDepth 100000 in
theorem src_pick (B : Nat) (v : Value) (l : List Value) (k n : Nat) (N : Int) (W : World) (hn : n ≤ 900000) (hN : N ≤ 1000000) (h : Src B v l k n W) :
    Calls Try.prog 60 #[.pointer (some ⟨k, 0, none⟩), .int .i64 N] W fun e w' => ∃ r : Int, e = .returned (.int .i64 r) ∧ (0 ≤ r ∧ (1 ≤ N → r < N) ∧ (N ≤ 1 → r = 0)) ∧ Src B v l k (n + 2) w' ∧ W.grownBy w' (some k) := by
  have H1 := Lib.hid (src_next B v l k n W (by omega) h)
  have H2 := Lib.hid (fun W' => src_next B v l k (n + 1) W' (by omega))
  have HS := Lib.hid (h.more (show n ≤ n + 2 by omega))
  clear h
  by_cases h1 : N ≤ 1
  · go_enter Try.func60, Try.ntmps60
    go_wp2_with fail
    go_ret
    exact ⟨_, rfl, ⟨by omega, fun _ => by omega, fun _ => rfl⟩, HS.out, gk_drewN 0⟩
  · have z1 : (N == 0) = false := by simp; omega
    have z2 : 0 < N := by omega
    by_cases h2 : 200 < N
    · go_enter Try.func60, Try.ntmps60
      go_wp2_with fail
      refine H1.out.mono ?_; rintro e w1 ⟨r, rfl, ⟨r0, r1⟩, hs1, hg1⟩
      have S1 := Lib.hid hs1
      have G1 := Lib.hid hg1
      clear hs1 hg1
      have e1 : IntKind.i64.wrap (r * 256) = r * 256 := IntWalk.i64_in _ (by omega)
      go_wp2_with fail
      refine (H2.out _ S1.out).mono ?_; rintro e w2 ⟨t, rfl, ⟨t0, t1⟩, hs2, hg2⟩
      have S2 := Lib.hid hs2
      have G2 := Lib.hid (gk_trans G1.out hg2)
      clear hs2 hg2
      have e2 : IntKind.i64.wrap (r * 256 + t) = r * 256 + t := IntWalk.i64_in _ (by omega)
      obtain ⟨x, hx⟩ : ∃ x, r * 256 + t = x := ⟨_, rfl⟩
      have x0 : 0 ≤ x := by omega
      have HX : Hid (0 ≤ x % N ∧ x % N < N) := ⟨Int.emod_nonneg _ (by omega), Int.emod_lt_of_pos _ z2⟩
      have x1 : x ≤ 70000 := by omega
      have e3 : IntKind.i64.wrap (x % N) = x % N := IntWalk.i64_in _ (by have := HX.out; omega)
      rw [hx] at e2
      go_wp2_with fail
      go_ret
      exact ⟨_, rfl, ⟨HX.out.1, fun _ => HX.out.2, fun h => by omega⟩, S2.out, G2.out⟩
    · go_enter Try.func60, Try.ntmps60
      go_wp2_with fail
      refine H1.out.mono ?_; rintro e w1 ⟨r, rfl, ⟨r0, r1⟩, hs1, hg1⟩
      have S1 := Lib.hid (hs1.more (show n + 1 ≤ n + 2 by omega))
      have G1 := Lib.hid hg1
      clear hs1 hg1
      have HX : Hid (0 ≤ r % N ∧ r % N < N) := ⟨Int.emod_nonneg _ (by omega), Int.emod_lt_of_pos _ z2⟩
      have e3 : IntKind.i64.wrap (r % N) = r % N := IntWalk.i64_in _ (by have := HX.out; omega)
      go_wp2_with fail
      go_ret
      exact ⟨_, rfl, ⟨HX.out.1, fun _ => HX.out.2, fun h => by omega⟩, S1.out, G1.out⟩

set_option maxRecDepth 100000 in
theorem src_one (B : Nat) (v : Value) (l : List Value) (k n : Nat) (N : Int) (W : World) (hn : n ≤ 900000) (hN : N ≤ 1000000) (h : Src B v l k n W) :
    Calls Try.prog 62 #[.pointer (some ⟨k, 0, none⟩), .int .i64 N] W fun e w' => ∃ r : Bool, e = .returned (.bool r) ∧ Src B v l k (n + 2) w' ∧ W.grownBy w' (some k) := by
  have H1 := Lib.hid (src_pick B v l k n N W hn hN h)
  clear h
  go_enter Try.func62, Try.ntmps62
  go_wp2_with fail
  refine H1.out.mono ?_; rintro e w1 ⟨r, rfl, -, hs1, hg1⟩
  have S1 := Lib.hid hs1
  have G1 := Lib.hid hg1
  clear hs1 hg1
  go_wp2_with fail
  go_ret
  exact ⟨_, rfl, S1.out, G1.out⟩

/-- Numbers that a call has laid. -/
theorem rdv_lit {k : Nat} {W : World} (xs : List Int) (cs : Array Value) (t : TypeId) (hcs : cs = (intVals xs).toArray) (hk : k < W.heap.size) (hx : xs.length ≤ 1000000) : RdV (· ≠ k) (W.alloc (.cells cs t)) (.slice (some ⟨W.heap.size, 0, none⟩) xs.length xs.length) (intVals xs) := by
  subst hcs
  refine ⟨_, _, _, rfl, intVals_length xs, Nat.le_refl _, by unfold maxLen; omega, fun _ => ⟨W.heap.size, 0, rfl, by omega, by simp, fun i x hi => ?_⟩⟩
  rw [Nat.zero_add, World.cell?_alloc_at _ _ _ _ rfl]
  simpa using hi

set_option maxRecDepth 100000 in
theorem src_from (v : Value) (l : List Value) (W : World) (h : RdV (· < W.heap.size) W v l) (hb : ∀ x ∈ l, ∃ y : Int, x = .int .u8 y ∧ 0 ≤ y ∧ y ≤ 255) :
    Calls Try.prog 59 #[v] W fun e w' => e = .returned (.pointer (some ⟨W.heap.size, 0, none⟩)) ∧ Src W.heap.size v l W.heap.size 0 w' ∧ Below W.heap.size W w' := by
  have HS : Hid (Src W.heap.size v l W.heap.size 0 (W.alloc (.cells #[v, .int .i64 0, .int .u64 0] 109)) ∧ Below W.heap.size W (W.alloc (.cells #[v, .int .i64 0, .int .u64 0] 109))) := by
    have hbl : Below W.heap.size W (W.alloc (.cells #[v, .int .i64 0, .int .u64 0] 109)) := (Below.refl _ _).alloc (Nat.le_refl _) _
    exact ⟨⟨Nat.le_refl _, ⟨0, 0, Blk.new W _ _ _ rfl, by omega, by omega⟩, h.keep hbl, hb⟩, hbl⟩
  obtain ⟨A, m, c, rfl, -⟩ := h
  go_enter Try.func59, Try.ntmps59
  go_wp2_with fail
  go_ret
  exact ⟨rfl, HS.out⟩

/-- An argument of bytes. -/
theorem bytes_open {H : Type} {enc : TypeId × Value → H} {W : World} {fuel : Nat} {v : Value} {x : DataW H × List MemPlace} {s : Nat → Bool} (h : DataW.trod enc Try.prog W 0 s true fuel 41 [v] = some x) :
    ∃ l, RdV (· < W.heap.size) W v l ∧ ∀ x ∈ l, ∃ y : Int, x = .int .u8 y ∧ 0 ≤ y ∧ y ≤ 255 := by
  rcases Go.ChangeShapes.open_ints Try.underlying41 Try.underlying5 (by kernel_rfl) h with ⟨hcs, hx⟩ | ⟨a, len, cap, zs, hcs, hb, hl, hm, hz, hx, hcell, hwz⟩
  · simp at hcs
    exact ⟨[], ⟨none, 0, 0, hcs, rfl, Nat.le_refl _, Nat.zero_le _, fun h => by omega⟩, fun n hn => by simp at hn⟩
  · simp at hcs
    have hzl : len ≤ zs.length := by rw [hz]; split <;> omega
    refine ⟨(zs.take len).map (Value.int .u8), ⟨_, _, _, hcs, by rw [List.length_map, List.length_take]; omega, hl, by omega, fun h0 => ?_⟩, fun n hn => ?_⟩
    · obtain ⟨b, off, spot⟩ := a
      have c0 := hcell 0 (by omega)
      have hspot : spot = none := by simpa [Addr.add] using World.cell?_spot c0
      subst hspot
      have hadd : ∀ i, (⟨b, off, none⟩ : Addr).add i = ⟨b, off + i, none⟩ := fun i => by unfold Addr.add; split <;> simp_all
      have hlt : b < W.heap.size := by
        rw [hadd] at c0
        exact World.block_lt_of_cell? _ _ c0
      refine ⟨b, off, rfl, hlt, hlt, fun i x hi => ?_⟩
      rw [List.getElem?_map, List.getElem?_take] at hi
      split at hi
      · rename_i hil
        rw [List.getElem?_eq_getElem (by omega)] at hi
        injection hi with hi
        rw [← hadd, hcell i (by omega), ← hi]
        simp [List.getD, List.getElem?_eq_getElem (show i < zs.length by omega)]
      · cases hi
    · obtain ⟨y, hy, rfl⟩ := List.mem_map.1 hn
      have hw := hwz y (List.mem_of_mem_take hy)
      refine ⟨y, rfl, ?_⟩
      simp [Lit.wf, IntKind.min, IntKind.max, IntKind.signed, IntKind.bits] at hw
      omega
end Go.Proofs.Ytddlpbpcdjddpaa
