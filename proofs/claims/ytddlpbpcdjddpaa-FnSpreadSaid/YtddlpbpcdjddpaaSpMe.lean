/- Several texts in one: Where a number first is in a list (plain). | What both sides ask of lists of numbers. | Whether two lists of numbers are the same, both sides. | The source of draws of the model: what its calls give. -/
import Derived.Test.YtddlpbpcdjddpaaPl
import Derived.Test.YtddlpbpcdjddpaaRd
import Derived.Test.YtddlpbpcdjddpaaEsP
import Derived.Test.YtddlpbpcdjddpaaBtw
import Derived.Deep.QuietTactic
import Derived.BigQuiet
import Derived.Test.YtddlpbpcdjddpaaRdv
import Derived.Test.YtddlpbpcdjddpaaInts
import Derived.Laws.IdiomStrings
import Derived.ChangeSlices
import Derived.Laws.BitsAllLaws
namespace Go.Proofs.Ytddlpbpcdjddpaa
set_option linter.unusedVariables false
open Go Go.RowKit

def pos (x : Int) : List Int → Nat
  | [] => 0
  | y :: l => if y = x then 0 else pos x l + 1
theorem pos_le (x : Int) : ∀ l : List Int, pos x l ≤ l.length
  | [] => Nat.le_refl _
  | y :: l => by have := pos_le x l; rw [pos]; split <;> simp <;> omega
theorem pos_of (x : Int) : ∀ (l : List Int) (k : Nat) (hk : k < l.length), l[k] = x → (∀ j (hj : j < k), l[j]'(by omega) ≠ x) → pos x l = k
  | [], k, hk, _, _ => by simp at hk
  | y :: l, 0, hk, h, _ => by simp at h; simp [pos, h]
  | y :: l, k + 1, hk, h, hb => by
    have h0 := hb 0 (by omega)
    simp at h0 h
    rw [pos, if_neg h0, pos_of x l k (by simp at hk; omega) h (fun j hj => by have := hb (j + 1) (by omega); simpa using this)]
theorem pos_none (x : Int) : ∀ (l : List Int), (∀ j (hj : j < l.length), l[j] ≠ x) → pos x l = l.length
  | [], _ => rfl
  | y :: l, hb => by
    have h0 := hb 0 (by simp)
    simp at h0
    rw [pos, if_neg h0, pos_none x l (fun j hj => by have := hb (j + 1) (by simp; omega); simpa using this)]; rfl
theorem has_at {l : List Int} {x : Int} {k : Nat} (hk : k < l.length) (h : l[k] = x) : l.contains x = true := by
  rw [List.contains_iff_mem, ← h]; exact List.getElem_mem hk
theorem has_not {l : List Int} {x : Int} (h : ∀ j (hj : j < l.length), l[j] ≠ x) : l.contains x = false := by
  cases e : l.contains x
  · rfl
  · rw [List.contains_iff_mem] at e
    obtain ⟨k, hk, e⟩ := List.getElem_of_mem e
    exact absurd e (h k hk)
/-- What slices.Index answers. -/
def idxI (l : List Int) (x : Int) : Int := if pos x l < l.length then (pos x l : Int) else -1
theorem idxI_at {l : List Int} {x : Int} {k : Nat} (hk : k < l.length) (h : l[k] = x) (hb : ∀ j (hj : j < k), l[j]'(by omega) ≠ x) : idxI l x = k := by
  unfold idxI; rw [pos_of x l k hk h hb, if_pos hk]
theorem idxI_none {l : List Int} {x : Int} (hb : ∀ j (hj : j < l.length), l[j] ≠ x) : idxI l x = -1 := by
  unfold idxI; rw [pos_none x l hb, if_neg (Nat.lt_irrefl _)]
theorem idxI_has (l : List Int) (x : Int) : l.contains x = decide (0 ≤ idxI l x) := by
  cases e : l.contains x
  · have : ∀ j (hj : j < l.length), l[j] ≠ x := fun j hj h => by rw [has_at hj h] at e; cases e
    rw [idxI_none this]; rfl
  · unfold idxI
    have hp : pos x l < l.length := by
      rcases Nat.lt_or_ge (pos x l) l.length with h | h
      · exact h
      · exfalso
        rw [List.contains_iff_mem] at e
        induction l with
        | nil => cases e
        | cons y l ih =>
          rw [pos] at h
          split at h
          · simp at h
          · rename_i hy
            simp at e
            rcases e with e | e
            · exact hy e.symm
            · exact ih e (by simp at h; omega)
    rw [if_pos hp, decide_eq_true (by omega)]
end Go.Proofs.Ytddlpbpcdjddpaa

namespace Go.Proofs.Ytddlpbpcdjddpaa
open Go Go.RowKit
set_option linter.unusedVariables false
theorem quiet_at {P : Program} {f : FuncId} {args : Array Value} {w : World} {q n : Nat} {v : Value}
    (h : Calls P f args (w.drewN (q + n)) fun e w' => e = .returned v ∧ w.drewN (q + n) = w') : Calls P f args (w.drewN (q + n)) fun e w'' => e = .returned v ∧ ∃ m, w'' = w.drewN (q + m) :=
  h.mono fun _ _ ⟨he, hm⟩ => ⟨he, n, hm.symm⟩

set_option maxRecDepth 100000 in
set_option maxHeartbeats 1000000 in
theorem isIncreasing_impl (w : World) (v : Value) (l : List Int) (hb : ∀ n ∈ l, -9223372036854775808 ≤ n ∧ n ≤ 9223372036854775807) (h : Rd w v l) :
    Calls Try.prog 82 #[v] w fun e w' => e = .returned (.bool (inc l)) ∧ ∃ q, w' = w.drewN q := by
  have hlen := h.len
  obtain ⟨A, n, c, rfl, hn, -, -, r⟩ := h
  have hnl : n ≤ 9223372036854775807 := by unfold maxLen at hlen; omega
  have HN := Lib.hid hn
  have HR := Lib.hid r
  have HBD := Lib.hid (@inc_bad l)
  have HUP := Lib.hid (@inc_upto l)
  clear hn r hlen hb
  go_enter Try.func82, Try.ntmps82
  go_wp2_with fail
  go_loopw [6] (fun i wr => ∃ k q : Nat, k ≤ n ∧ i = .int .i64 k ∧ wr = w.drewN q ∧ ∀ j (hj : j < l.length), j < k → (h0 : 0 < j) → l[j - 1]'(by omega) < l[j]) (fun i _ => n - (intOf i).toNat)
  case atStart => exact ⟨0, 0, Nat.zero_le _, rfl, rfl, fun j _ h => by omega⟩
  case round =>
    obtain ⟨k, q, hk, rfl, rfl, hbe⟩ := hrel
    have HBE := Lib.hid hbe
    clear hbe
    by_cases hlt : k < n
    · obtain ⟨b, o, rfl, hlt0, hc⟩ := HR.out (by omega)
      have hkl : k < l.length := by have := HN.out; omega
      have hc0 := hc k hkl
      have hk0 : (0 : Int) ≤ (k : Int) := by omega
      have hk1 : (k : Int) < (n : Int) := by omega
      by_cases hz : k = 0
      · subst hz
        clear hc hc0
        go_wp2_with fail
        go_quiet (fail)
        go_wp2_with fail
        go_roundw
        case rel => exact ⟨1, _, by omega, by go_num, rfl, fun j hj hjk h0 => by omega⟩
        case measure => simp [intOf]; omega
      · have hc1 := hc (k - 1) (by omega)
        have HX := Lib.hid (fun (h : ¬ l[k - 1]'(by omega) < l[k]) => HBD.out k hkl (by omega) (by omega))
        have hw : IntKind.i64.wrap ((k : Int) - 1) = (k : Int) - 1 := IntWalk.i64_in _ (by omega)
        have hkm : (k : Int) - 1 = ((k - 1 : Nat) : Int) := by omega
        have hk3 : (0 : Int) < (k : Int) := by omega
        have hkn : 0 < k := by omega
        have hkd : decide (0 < k) = true := decide_eq_true hkn
        have hk4 : (0 : Int) ≤ (k : Int) - 1 := by omega
        have hk5 : (k : Int) - 1 < (n : Int) := by omega
        have hk6 : ((k : Int) - 1).toNat = k - 1 := by omega
        obtain ⟨y, hy⟩ : ∃ y, l[k] = y := ⟨_, rfl⟩
        obtain ⟨x, hx⟩ : ∃ x, l[k - 1]'(by omega) = x := ⟨_, rfl⟩
        rw [hy] at hc0 HX
        rw [hx] at hc1 HX
        have HXY := Lib.hid (And.intro hx hy)
        clear hc hx hy
        by_cases hxy : x < y
        · have hle : ¬ y ≤ x := by omega
          go_wp2_with fail
          go_quiet (fail)
          go_wp2_with fail
          go_roundw
          case rel => exact ⟨k + 1, _, by omega, by go_num, rfl, fun j hj hjk h0 => by
            by_cases e : j = k
            · subst e; rw [HXY.out.1, HXY.out.2]; exact hxy
            · exact HBE.out j hj (by omega) h0⟩
          case measure => simp [intOf]; omega
        · have HZ := Lib.hid (HX.out hxy)
          have hle : y ≤ x := by omega
          go_wp2_with fail
          go_quiet (fail)
          go_wp2_with fail
          go_ret
          exact ⟨ret_bool (by rw [HZ.out]), _, World.drewN_drewN _ _ _⟩
    · have HZ := Lib.hid (HUP.out (fun j hj h0 => HBE.out j hj (by have := HN.out; omega) h0))
      go_wp2_with fail
      go_ret
      exact ⟨ret_bool (by rw [HZ.out]), _, rfl⟩

set_option maxRecDepth 100000 in
set_option maxHeartbeats 1000000 in
theorem l00Rises_spec (w : World) (v : Value) (l : List Int) (hb : ∀ n ∈ l, -9223372036854775808 ≤ n ∧ n ≤ 9223372036854775807) (h : Rd w v l) :
    Calls Try.prog 80 #[v, .int .i64 0, .int .i64 255] w fun e w' => e = .returned (.bool (inc l && byR l)) ∧ ∃ q, w' = w.drewN q := by
  have hlen := h.len
  obtain ⟨A, n, c, rfl, hn, -, -, r⟩ := h
  have hnl : n ≤ 9223372036854775807 := by unfold maxLen at hlen; omega
  have HN := Lib.hid hn
  have HR := Lib.hid r
  have HBD := Lib.hid (@inc_bad l)
  have HUP := Lib.hid (@inc_upto l)
  have HBY := Lib.hid (@byR_bad l)
  have HBU := Lib.hid (@byR_upto l)
  clear hn r hlen hb
  go_enter Try.func80, Try.ntmps80
  go_wp2_with fail
  go_loopw [7] (fun i wr => ∃ k q : Nat, k ≤ n ∧ i = .int .i64 k ∧ wr = w.drewN q ∧ (∀ j (hj : j < l.length), j < k → (h0 : 0 < j) → l[j - 1]'(by omega) < l[j]) ∧ ∀ j (hj : j < l.length), j < k → 0 ≤ l[j] ∧ l[j] ≤ 255) (fun i _ => n - (intOf i).toNat)
  case atStart => exact ⟨0, 0, Nat.zero_le _, rfl, rfl, fun j _ h => by omega, fun j _ h => by omega⟩
  case round =>
    obtain ⟨k, q, hk, rfl, rfl, hbe, hbf⟩ := hrel
    have HBE := Lib.hid hbe
    have HBF := Lib.hid hbf
    clear hbe hbf
    by_cases hlt : k < n
    · obtain ⟨b, o, rfl, hlt0, hc⟩ := HR.out (by omega)
      have hkl : k < l.length := by have := HN.out; omega
      have hc0 := hc k hkl
      have hk0 : (0 : Int) ≤ (k : Int) := by omega
      have hk1 : (k : Int) < (n : Int) := by omega
      have HX2 := Lib.hid (fun h => HBY.out k hkl h)
      obtain ⟨y, hy⟩ : ∃ y, l[k] = y := ⟨_, rfl⟩
      rw [hy] at hc0 HX2
      by_cases hyr : 0 ≤ y ∧ y ≤ 255
      rotate_left
      · have HZ := Lib.hid (HX2.out hyr)
        have HH := Lib.hid hyr
        clear hc hy hyr
        go_wp2_with fail
        go_quiet ((go_at_call 46; exact quiet_at (l00In_no _ _ _ _ HH.out)))
        go_wp2_with fail
        go_ret
        exact ⟨ret_bool (by rw [HZ.out, Bool.and_false]), _, World.drewN_drewN _ _ _⟩
      obtain ⟨y0, y1⟩ := hyr
      by_cases hz : k = 0
      · subst hz
        have HY := Lib.hid hy
        have hc00 : w.cell? ⟨b, o, none⟩ = some (.int .i64 y) := hc0
        have hn0 : 0 < n := by omega
        clear hc hy hc0
        go_wp2_with fail
        go_quiet ((go_at_call 46; exact quiet_at (l00In_yes _ _ _ _ y0 y1)))
        go_wp2_with fail
        go_roundw
        case rel => exact ⟨1, _, by omega, by go_num, rfl, fun j hj hjk h0 => by omega, fun j hj hjk => by
          obtain rfl : j = 0 := by omega
          rw [HY.out]; exact ⟨y0, y1⟩⟩
        case measure => simp [intOf]; omega
      · have hc1 := hc (k - 1) (by omega)
        have HX := Lib.hid (fun (h : ¬ l[k - 1]'(by omega) < l[k]) => HBD.out k hkl (by omega) (by omega))
        have hw : IntKind.i64.wrap ((k : Int) - 1) = (k : Int) - 1 := IntWalk.i64_in _ (by omega)
        have hk3 : (0 : Int) < (k : Int) := by omega
        have hkn : 0 < k := by omega
        have hkd : decide (0 < k) = true := decide_eq_true hkn
        have hk4 : (0 : Int) ≤ (k : Int) - 1 := by omega
        have hk5 : (k : Int) - 1 < (n : Int) := by omega
        have hk6 : ((k : Int) - 1).toNat = k - 1 := by omega
        obtain ⟨x, hx⟩ : ∃ x, l[k - 1]'(by omega) = x := ⟨_, rfl⟩
        rw [hy] at HX
        rw [hx] at hc1 HX
        have HXY := Lib.hid (And.intro hx hy)
        clear hc hx hy
        by_cases hxy : x < y
        · have hle : ¬ y ≤ x := by omega
          go_wp2_with fail
          go_quiet ((go_at_call 46; exact quiet_at (l00In_yes _ _ _ _ y0 y1)))
          go_wp2_with fail
          go_roundw
          case rel => exact ⟨k + 1, _, by omega, by go_num, rfl, fun j hj hjk h0 => by
            by_cases e : j = k
            · subst e; rw [HXY.out.1, HXY.out.2]; exact hxy
            · exact HBE.out j hj (by omega) h0, fun j hj hjk => by
            by_cases e : j = k
            · subst e; rw [HXY.out.2]; exact ⟨y0, y1⟩
            · exact HBF.out j hj (by omega)⟩
          case measure => simp [intOf]; omega
        · have HZ := Lib.hid (HX.out hxy)
          have hle : y ≤ x := by omega
          go_wp2_with fail
          go_quiet ((go_at_call 46; exact quiet_at (l00In_yes _ _ _ _ y0 y1)))
          go_wp2_with fail
          go_ret
          exact ⟨ret_bool (by rw [HZ.out, Bool.false_and]), _, World.drewN_drewN _ _ _⟩
    · have HZ := Lib.hid (HUP.out (fun j hj h0 => HBE.out j hj (by have := HN.out; omega) h0))
      have HZ2 := Lib.hid (HBU.out (fun j hj => HBF.out j hj (by have := HN.out; omega)))
      go_wp2_with fail
      go_ret
      exact ⟨ret_bool (by rw [HZ.out, HZ2.out]; rfl), _, rfl⟩
end Go.Proofs.Ytddlpbpcdjddpaa

namespace Go.Proofs.Ytddlpbpcdjddpaa
open Go Go.RowKit
set_option linter.unusedVariables false

theorem same_ne {a b : List Int} {k : Nat} (h1 : k < a.length) (h2 : k < b.length) (h : a[k] ≠ b[k]) : ¬ a = b := by intro e; subst e; exact h rfl
theorem same_eq {a b : List Int} (hl : a.length = b.length) (h : ∀ k (h1 : k < a.length) (h2 : k < b.length), a[k] = b[k]) : a = b := List.ext_getElem hl (fun i h1 h2 => h i h1 h2)

end Go.Proofs.Ytddlpbpcdjddpaa

namespace Go.Proofs.Ytddlpbpcdjddpaa
open Go Go.RowKit
set_option linter.unusedVariables false

/-- A source of draws in the block k: it reads the bytes l at v, which lie below B, and has drawn at most n. -/
structure Src (B : Nat) (v : Value) (l : List Value) (k n : Nat) (W : World) : Prop where
  low : B ≤ k
  cells : ∃ a z : Int, Blk W k 109 [v, .int .i64 a, .int .u64 z] ∧ 0 ≤ a ∧ a ≤ n
  rd : RdV (· < B) W v l
  byt : ∀ x ∈ l, ∃ y : Int, x = .int .u8 y ∧ 0 ≤ y ∧ y ≤ 255
theorem Src.more {B : Nat} {v : Value} {l : List Value} {k n m : Nat} {W : World} (h : Src B v l k n W) (hm : n ≤ m) : Src B v l k m W := by
  obtain ⟨a, z, h1, h2, h3⟩ := h.cells
  exact ⟨h.low, ⟨a, z, h1, h2, by omega⟩, h.rd, h.byt⟩
theorem Src.keep {B : Nat} {v : Value} {l : List Value} {k n : Nat} {W W' : World} (h : Src B v l k n W) (hb : Below W.heap.size W W') : Src B v l k n W' := by
  obtain ⟨a, z, h1, h2⟩ := h.cells
  exact ⟨h.low, ⟨a, z, h1.keep hb, h2⟩, h.rd.keep hb, h.byt⟩
theorem Src.lt {B : Nat} {v : Value} {l : List Value} {k n : Nat} {W : World} (h : Src B v l k n W) : k < W.heap.size := by
  obtain ⟨a, z, h1, h2⟩ := h.cells
  exact h1.lt
theorem Src.grown {B : Nat} {v : Value} {l : List Value} {k n : Nat} {W W' : World} {row : Option Nat} (h : Src B v l k n W) (hg : W.grownBy W' row) (hne : ∀ j, row = some j → B ≤ j ∧ j ≠ k) : Src B v l k n W' := by
  obtain ⟨a, z, h1, h2⟩ := h.cells
  refine ⟨h.low, ⟨a, z, h1.grown hg (fun e => (hne k e).2 rfl), h2⟩, h.rd.same (fun b hb hl => hg.block b hl (fun e => ?_)) hg.size, h.byt⟩
  have := (hne b e.symm).1
  omega
theorem gk_drewN {w : World} {row : Option Nat} (q : Nat) : w.grownBy (w.drewN q) row := ⟨rfl, rfl, rfl, Nat.le_refl _, fun _ _ _ => rfl⟩
theorem gk_trans {w w1 w2 : World} {k : Nat} (h : w.grownBy w1 (some k)) (g : w1.grownBy w2 (some k)) : w.grownBy w2 (some k) :=
  ⟨g.os.trans h.os, g.tape.trans h.tape, g.output.trans h.output, Nat.le_trans h.size g.size, fun j hj hn => (g.block j (Nat.lt_of_lt_of_le hj h.size) hn).trans (h.block j hj hn)⟩
theorem gk_set {w : World} (b j : Nat) (x : Value) : w.grownBy (w.setCell ⟨b, j, none⟩ x) (some b) :=
  ⟨rfl, rfl, rfl, by simp [World.setCell], fun k hk hne => Below.heap_setCell _ _ _ _ (by intro e; exact hne (by rw [e]))⟩
theorem gk_below {w w1 : World} {row : Option Nat} (hb : Below w.heap.size w w1) : w.grownBy w1 row := ⟨hb.os, hb.tape, hb.output, hb.size, fun k hk _ => hb.block k hk⟩
/-- Below the source's block nothing has turned. -/
theorem gk_to {B k : Nat} {w w1 w2 : World} (h : Below B w w1) (g : w1.grownBy w2 (some k)) (hB : B ≤ w1.heap.size) (hk : B ≤ k) : Below B w w2 := h.grown g hB (fun j hj => by injection hj with hj; omega)
theorem u64_and255 (x : Int) : 0 ≤ wrap64 (bits BinOp.and IntKind.u64 (IntKind.u64.wrap x / 1099511627776) 255) ∧ wrap64 (bits BinOp.and IntKind.u64 (IntKind.u64.wrap x / 1099511627776) 255) ≤ 255 := by
  have h : 0 ≤ IntKind.u64.wrap x ∧ IntKind.u64.wrap x < 18446744073709551616 := by
    have e : IntKind.u64.wrap x = x % 18446744073709551616 := by unfold IntKind.wrap; simp [IntKind.signed, IntKind.bits]
    rw [e]; omega
  generalize IntKind.u64.wrap x = y at h
  rw [u64_and _ _ (by omega) (by omega) (by decide) (by decide)]
  have h2 : ((y / 1099511627776).toNat &&& (255 : Int).toNat) ≤ 255 := Nat.and_le_right
  generalize ((y / 1099511627776).toNat &&& (255 : Int).toNat) = z at h2
  have e : wrap64 (z : Int) = z := by unfold wrap64; omega
  rw [e]; omega
theorem src_step {B : Nat} {v : Value} {l : List Value} {k n : Nat} {W : World} {a z : Int} (hk : Blk W k 109 [v, .int .i64 a, .int .u64 z]) (h0 : 0 ≤ a ∧ a ≤ n) (h : Src B v l k n W) (p q : Nat) (x y : Int) (hx : a + 1 = x) :
    Src B v l k (n + 1) ((((W.drewN p).setCell ⟨k, 1, none⟩ (.int .i64 x)).setCell ⟨k, 2, none⟩ (.int .u64 y)).drewN q) ∧ W.grownBy ((((W.drewN p).setCell ⟨k, 1, none⟩ (.int .i64 x)).setCell ⟨k, 2, none⟩ (.int .u64 y)).drewN q) (some k) := by
  have hg : W.grownBy ((((W.drewN p).setCell ⟨k, 1, none⟩ (.int .i64 x)).setCell ⟨k, 2, none⟩ (.int .u64 y)).drewN q) (some k) :=
    gk_trans (gk_drewN p) (gk_trans (gk_set k 1 _) (gk_trans (gk_set k 2 _) (gk_drewN q)))
  refine ⟨⟨h.low, ⟨x, y, (((hk.drewN p).set 1 _).set 2 _).drewN q, by omega, by omega⟩, h.rd.same (fun b hb hl => hg.block b hl (fun e => ?_)) hg.size, h.byt⟩, hg⟩
  injection e with e
  have := h.low
  omega

set_option maxHeartbeats 1000000 in
set_option maxRecDepth 100000 in
theorem src_next (B : Nat) (v : Value) (l : List Value) (k n : Nat) (W : World) (hn : n ≤ 1000000) (h : Src B v l k n W) :
    Calls Try.prog 84 #[.pointer (some ⟨k, 0, none⟩)] W fun e w' => ∃ r : Int, e = .returned (.int .i64 r) ∧ (0 ≤ r ∧ r ≤ 255) ∧ Src B v l k (n + 1) w' ∧ W.grownBy w' (some k) := by
  have hlow := h.low
  have hrd := h.rd
  have hby := h.byt
  obtain ⟨a, z, hk, h0, h1⟩ := h.cells
  obtain ⟨A, m, c, rfl, hm, hc, hx, hr⟩ := hrd
  have HK := Lib.hid hk
  have q0 := hk.cell 0 _ rfl
  have q1 := hk.cell 1 _ rfl
  have q2 := hk.cell 2 _ rfl
  have f1 := hk.frozen 1
  have f2 := hk.frozen 2
  have hml : m ≤ 9223372036854775807 := by unfold maxLen at hx; omega
  have wa : IntKind.i64.wrap (a + 1) = a + 1 := IntWalk.i64_in _ (by omega)
  have HF := Lib.hid (src_step hk ⟨h0, h1⟩ h)
  by_cases hlt : a < (m : Int)
  · obtain ⟨b, o, rfl, hb, hbl, hcell⟩ := hr (by omega)
    obtain ⟨j, rfl⟩ : ∃ j : Nat, a = (j : Int) := ⟨a.toNat, by omega⟩
    have hj : j < l.length := by omega
    obtain ⟨y, hy, hy0, hy1⟩ := hby _ (List.getElem_mem hj)
    have hcj := hcell j (.int .u8 y) (by rw [List.getElem?_eq_getElem hj, hy])
    have hle : (j : Int) + 1 ≤ (m : Int) := by omega
    have hne : b ≠ k := by omega
    have HY := Lib.hid (And.intro hy0 hy1)
    clear hr hby hcell hk h hy hm
    go_enter Try.func84, Try.ntmps84
    go_wp2_with fail
    go_quiet (fail)
    go_wp2_with fail
    go_quiet (fail)
    go_wp2_with fail
    go_quiet (fail)
    go_wp2_with fail
    go_ret
    exact ⟨_, rfl, HY.out, HF.out _ _ _ _ rfl⟩
  · have hge : (m : Int) ≤ a := by omega
    have hgt : ¬ a + 1 ≤ (m : Int) := by omega
    clear hr hby hk h
    go_enter Try.func84, Try.ntmps84
    go_wp2_with fail
    go_quiet (fail)
    go_wp2_with fail
    go_quiet (fail)
    go_wp2_with fail
    go_ret
    exact ⟨_, rfl, u64_and255 _, HF.out _ _ _ _ rfl⟩

set_option maxHeartbeats 1000000 in
set_option maxRecDepth 100000 in
theorem src_pick (B : Nat) (v : Value) (l : List Value) (k n : Nat) (N : Int) (W : World) (hn : n ≤ 900000) (hN : N ≤ 1000000) (h : Src B v l k n W) :
    Calls Try.prog 60 #[.pointer (some ⟨k, 0, none⟩), .int .i64 N] W fun e w' => ∃ r : Int, e = .returned (.int .i64 r) ∧ (0 ≤ r ∧ (1 ≤ N → r < N) ∧ (N ≤ 1 → r = 0)) ∧ Src B v l k (n + 2) w' ∧ W.grownBy w' (some k) := by
  have H1 := Lib.hid (src_next B v l k n W (by omega) h)
  have H2 := Lib.hid (fun W' => src_next B v l k (n + 1) W' (by omega))
  have HS := Lib.hid (h.more (show n ≤ n + 2 by omega))
  clear h
  by_cases h1 : N ≤ 1
  · go_enter Try.func60, Try.ntmps60
    go_wp2_with fail
    go_ret
    exact ⟨_, rfl, ⟨by omega, fun _ => by omega, fun _ => rfl⟩, HS.out, gk_drewN 0⟩
  · have z1 : (N == 0) = false := by simp; omega
    have z2 : 0 < N := by omega
    by_cases h2 : 200 < N
    · go_enter Try.func60, Try.ntmps60
      go_wp2_with fail
      refine H1.out.mono ?_; rintro e w1 ⟨r, rfl, ⟨r0, r1⟩, hs1, hg1⟩
      have S1 := Lib.hid hs1
      have G1 := Lib.hid hg1
      clear hs1 hg1
      have e1 : IntKind.i64.wrap (r * 256) = r * 256 := IntWalk.i64_in _ (by omega)
      go_wp2_with fail
      refine (H2.out _ S1.out).mono ?_; rintro e w2 ⟨t, rfl, ⟨t0, t1⟩, hs2, hg2⟩
      have S2 := Lib.hid hs2
      have G2 := Lib.hid (gk_trans G1.out hg2)
      clear hs2 hg2
      have e2 : IntKind.i64.wrap (r * 256 + t) = r * 256 + t := IntWalk.i64_in _ (by omega)
      obtain ⟨x, hx⟩ : ∃ x, r * 256 + t = x := ⟨_, rfl⟩
      have x0 : 0 ≤ x := by omega
      have HX : Hid (0 ≤ x % N ∧ x % N < N) := ⟨Int.emod_nonneg _ (by omega), Int.emod_lt_of_pos _ z2⟩
      have x1 : x ≤ 70000 := by omega
      have e3 : IntKind.i64.wrap (x % N) = x % N := IntWalk.i64_in _ (by have := HX.out; omega)
      rw [hx] at e2
      go_wp2_with fail
      go_ret
      exact ⟨_, rfl, ⟨HX.out.1, fun _ => HX.out.2, fun h => by omega⟩, S2.out, G2.out⟩
    · go_enter Try.func60, Try.ntmps60
      go_wp2_with fail
      refine H1.out.mono ?_; rintro e w1 ⟨r, rfl, ⟨r0, r1⟩, hs1, hg1⟩
      have S1 := Lib.hid (hs1.more (show n + 1 ≤ n + 2 by omega))
      have G1 := Lib.hid hg1
      clear hs1 hg1
      have HX : Hid (0 ≤ r % N ∧ r % N < N) := ⟨Int.emod_nonneg _ (by omega), Int.emod_lt_of_pos _ z2⟩
      have e3 : IntKind.i64.wrap (r % N) = r % N := IntWalk.i64_in _ (by have := HX.out; omega)
      go_wp2_with fail
      go_ret
      exact ⟨_, rfl, ⟨HX.out.1, fun _ => HX.out.2, fun h => by omega⟩, S1.out, G1.out⟩

set_option maxRecDepth 100000 in
theorem src_one (B : Nat) (v : Value) (l : List Value) (k n : Nat) (N : Int) (W : World) (hn : n ≤ 900000) (hN : N ≤ 1000000) (h : Src B v l k n W) :
    Calls Try.prog 62 #[.pointer (some ⟨k, 0, none⟩), .int .i64 N] W fun e w' => ∃ r : Bool, e = .returned (.bool r) ∧ Src B v l k (n + 2) w' ∧ W.grownBy w' (some k) := by
  have H1 := Lib.hid (src_pick B v l k n N W hn hN h)
  clear h
  go_enter Try.func62, Try.ntmps62
  go_wp2_with fail
  refine H1.out.mono ?_; rintro e w1 ⟨r, rfl, -, hs1, hg1⟩
  have S1 := Lib.hid hs1
  have G1 := Lib.hid hg1
  clear hs1 hg1
  go_wp2_with fail
  go_ret
  exact ⟨_, rfl, S1.out, G1.out⟩

/-- Numbers that a call has laid. -/
theorem rdv_lit {k : Nat} {W : World} (xs : List Int) (cs : Array Value) (t : TypeId) (hcs : cs = (intVals xs).toArray) (hk : k < W.heap.size) (hx : xs.length ≤ 1000000) : RdV (· ≠ k) (W.alloc (.cells cs t)) (.slice (some ⟨W.heap.size, 0, none⟩) xs.length xs.length) (intVals xs) := by
  subst hcs
  refine ⟨_, _, _, rfl, intVals_length xs, Nat.le_refl _, by unfold maxLen; omega, fun _ => ⟨W.heap.size, 0, rfl, by omega, by simp, fun i x hi => ?_⟩⟩
  rw [Nat.zero_add, World.cell?_alloc_at _ _ _ _ rfl]
  simpa using hi

set_option maxRecDepth 100000 in
theorem src_from (v : Value) (l : List Value) (W : World) (h : RdV (· < W.heap.size) W v l) (hb : ∀ x ∈ l, ∃ y : Int, x = .int .u8 y ∧ 0 ≤ y ∧ y ≤ 255) :
    Calls Try.prog 59 #[v] W fun e w' => e = .returned (.pointer (some ⟨W.heap.size, 0, none⟩)) ∧ Src W.heap.size v l W.heap.size 0 w' ∧ Below W.heap.size W w' := by
  have HS : Hid (Src W.heap.size v l W.heap.size 0 (W.alloc (.cells #[v, .int .i64 0, .int .u64 0] 109)) ∧ Below W.heap.size W (W.alloc (.cells #[v, .int .i64 0, .int .u64 0] 109))) := by
    have hbl : Below W.heap.size W (W.alloc (.cells #[v, .int .i64 0, .int .u64 0] 109)) := (Below.refl _ _).alloc (Nat.le_refl _) _
    exact ⟨⟨Nat.le_refl _, ⟨0, 0, Blk.new W _ _ _ rfl, by omega, by omega⟩, h.keep hbl, hb⟩, hbl⟩
  obtain ⟨A, m, c, rfl, -⟩ := h
  go_enter Try.func59, Try.ntmps59
  go_wp2_with fail
  go_ret
  exact ⟨rfl, HS.out⟩

/-- An argument of bytes. -/
theorem bytes_open {H : Type} {enc : TypeId × Value → H} {W : World} {fuel : Nat} {v : Value} {x : DataW H × List MemPlace} {s : Nat → Bool} (h : DataW.trod enc Try.prog W 0 s true fuel 41 [v] = some x) :
    ∃ l, RdV (· < W.heap.size) W v l ∧ ∀ x ∈ l, ∃ y : Int, x = .int .u8 y ∧ 0 ≤ y ∧ y ≤ 255 := by
  rcases Go.ChangeShapes.open_ints Try.underlying41 Try.underlying5 (by kernel_rfl) h with ⟨hcs, hx⟩ | ⟨a, len, cap, zs, hcs, hb, hl, hm, hz, hx, hcell, hwz⟩
  · simp at hcs
    exact ⟨[], ⟨none, 0, 0, hcs, rfl, Nat.le_refl _, Nat.zero_le _, fun h => by omega⟩, fun n hn => by simp at hn⟩
  · simp at hcs
    have hzl : len ≤ zs.length := by rw [hz]; split <;> omega
    refine ⟨(zs.take len).map (Value.int .u8), ⟨_, _, _, hcs, by rw [List.length_map, List.length_take]; omega, hl, by omega, fun h0 => ?_⟩, fun n hn => ?_⟩
    · obtain ⟨b, off, spot⟩ := a
      have c0 := hcell 0 (by omega)
      have hspot : spot = none := by simpa [Addr.add] using World.cell?_spot c0
      subst hspot
      have hadd : ∀ i, (⟨b, off, none⟩ : Addr).add i = ⟨b, off + i, none⟩ := fun i => by unfold Addr.add; split <;> simp_all
      have hlt : b < W.heap.size := by
        rw [hadd] at c0
        exact World.block_lt_of_cell? _ _ c0
      refine ⟨b, off, rfl, hlt, hlt, fun i x hi => ?_⟩
      rw [List.getElem?_map, List.getElem?_take] at hi
      split at hi
      · rename_i hil
        rw [List.getElem?_eq_getElem (by omega)] at hi
        injection hi with hi
        rw [← hadd, hcell i (by omega), ← hi]
        simp [List.getD, List.getElem?_eq_getElem (show i < zs.length by omega)]
      · cases hi
    · obtain ⟨y, hy, rfl⟩ := List.mem_map.1 hn
      have hw := hwz y (List.mem_of_mem_take hy)
      refine ⟨y, rfl, ?_⟩
      simp [Lit.wf, IntKind.min, IntKind.max, IntKind.signed, IntKind.bits] at hw
      omega
end Go.Proofs.Ytddlpbpcdjddpaa

