/- The model's l08Missed: how many choices of powers come to a rest. -/
import Derived.Test.YtnpigefbdadjfaaDoorMsP
import Derived.Test.YtnpigefbdadjfaaDoorCkm
import Derived.RangeFuncBox
namespace Go.Proofs.YtnpigefbdadjfaaDoor
open Go Go.RowKit
set_option linter.unusedVariables false

/-- A row of numbers that is read. -/
def RdP (W : World) (v : Value) (B : List Nat) : Prop :=
  ∃ (A : Option Addr) (n c : Nat), v = .slice A n c ∧ B.length = n ∧ n ≤ maxLen ∧
    (0 < n → ∃ g o, A = some ⟨g, o, none⟩ ∧ g < W.heap.size ∧ ∀ (i x : Nat), B[i]? = some x → W.cell? ⟨g, o + i, none⟩ = some (.int .i64 (x : Int)))
theorem RdP.keep {W W' : World} {v : Value} {B : List Nat} (h : RdP W v B) (hb : Below W.heap.size W W') : RdP W' v B := by
  obtain ⟨A, n, c, e, h1, h2, h3⟩ := h
  refine ⟨A, n, c, e, h1, h2, fun h0 => ?_⟩
  obtain ⟨g, o, ea, hl, hc⟩ := h3 h0
  exact ⟨g, o, ea, Nat.lt_of_lt_of_le hl hb.size, fun i x hx => (hb.cell (p := ⟨g, o + i, none⟩) hl).trans (hc i x hx)⟩
theorem chs_drop (Ps : List Nat) (j c r : Nat) (h : j < Ps.length) : chs (Ps.drop j) (c + 1) r = chs (Ps.drop (j + 1)) (c + 1) r + chs (Ps.drop (j + 1)) c (r ^^^ Ps[j]) := by
  rw [List.drop_eq_getElem_cons h]; rfl
theorem chs_drop_le (Ps : List Nat) (j c r : Nat) (h : Ps.length ≤ 32) : chs (Ps.drop j) c r ≤ 4294967296 := by
  have := chs_le (Ps.drop j) c r
  have h2 := Nat.pow_le_pow_right (show 0 < 2 by omega) (show (Ps.drop j).length ≤ 32 by rw [List.length_drop]; omega)
  omega
theorem infoI8 : (Tryd.prog.info? 2).map (fun i => (i.zero, i.size, i.bytes)) = some (some (.int .i64 0), 1, 8) := by kernel_rfl
def pwV (l : List Nat) : List Value := l.map (fun (x : Nat) => Value.int .i64 (x : Int))
theorem pwV_len (l : List Nat) : (pwV l).length = l.length := by simp [pwV]
theorem c1_i8 (wr : World) (x : Value) (t : TypeId) : ∀ (j : Nat) (u : Value), [x][j]? = some u → (wr.alloc (.cells #[x] t)).cell? ((⟨wr.heap.size, 0, none⟩ : Addr).add j) = some u := by
  intro j u hj
  match j, hj with
  | 0, hj =>
    simp at hj; subst hj
    rw [show ((⟨wr.heap.size, 0, none⟩ : Addr).add 0) = ⟨wr.heap.size, 0, none⟩ from by simp [Addr.add]]
    rw [World.cell?_alloc_at _ _ _ _ rfl]; rfl
theorem below_row8 {B base n : Nat} {w wr w1 : World} {e : TypeId} {v : Value} {xs : List Value} {o : Obj} (hb : Below B w wr) (hB : base ≤ wr.heap.size) (hB2 : B ≤ base) (hown : wr.ownsRow base e 1 v n xs) (hg : (wr.alloc o).grownBy w1 v.ownBlock) : Below B w w1 :=
  (hb.alloc (by omega) o).grown hg (by simp; omega) (fun k hk => by have := (hown.lt k hk).1; omega)
theorem own_rdp {W : World} {base : Nat} {v : Value} {l : List Nat} (h : W.ownsRow base 2 1 v l.length (pwV l)) (hm : l.length ≤ maxLen) : RdP W v l := by
  have hl := pwV_len l
  have hat : ∀ (i x : Nat), l[i]? = some x → (pwV l)[i]? = some (Value.int .i64 (x : Int)) := fun i x hx => by unfold pwV; rw [List.getElem?_map, hx]; rfl
  rcases h.2 with ⟨rfl, h0⟩ | ⟨g, cap, cur, rfl, h1, hg, h2, h3, h4, h5⟩
  · exact ⟨none, 0, 0, rfl, h0, Nat.zero_le _, fun h => by omega⟩
  · refine ⟨_, _, _, rfl, rfl, hm, fun _ => ⟨g, 0, rfl, ?_, fun i x hx => ?_⟩⟩
    · rcases Nat.lt_or_ge g W.heap.size with h' | h'
      · exact h'
      · rw [Array.getElem?_eq_none h'] at hg; cases hg
    · have hi : i < l.length := by
        rcases Nat.lt_or_ge i l.length with h' | h'
        · exact h'
        · rw [List.getElem?_eq_none h'] at hx; cases hx
      rw [Nat.zero_add]
      exact (World.ownsRow.cellAt (w := W) (base := base) h i (by omega)).trans (hat i x hx)
theorem pws_len (p d L : Nat) : (pws p d L).length = L := by unfold pws; rw [List.length_map, List.length_range]
theorem pws_lt {p d : Nat} (hg : Deg p d) (h16 : d ≤ 16) (L : Nat) : ∀ x ∈ pws p d L, x < 65536 := by
  intro x hx
  unfold pws at hx
  obtain ⟨k, -, rfl⟩ := List.mem_map.1 hx
  have := rd_lt hg (2 ^ k)
  have := Nat.pow_le_pow_right (show 0 < 2 by omega) h16
  omega
theorem pwV_succ (p d k : Nat) : pwV (pws p d k) ++ [.int .i64 ((rd p d (2 ^ k) : Nat) : Int)] = pwV (pws p d (k + 1)) := by
  rw [pws_succ]; unfold pwV; rw [List.map_append]; rfl
end Go.Proofs.YtnpigefbdadjfaaDoor
