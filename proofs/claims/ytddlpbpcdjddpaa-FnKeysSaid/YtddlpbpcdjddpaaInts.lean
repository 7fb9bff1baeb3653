/- Contracts of the laws' own functions on slices of numbers: eqInt64S, markInt64S, heldInt64S, over rows that a call made. -/
import Derived.Test.YtddlpbpcdjddpaaPl
import Derived.Test.YtddlpbpcdjddpaaProg
import Derived.OwnWalk
import Derived.WalkSpells
import Derived.WalkSmall
import Derived.Deep.AppendLies
import Derived.Deep.QuietTactic
import Derived.BigQuiet
namespace Go.Proofs.Ytddlpbpcdjddpaa
open Go Go.RowKit
set_option linter.unusedVariables false

theorem Try.infoInt : (Try.prog.info? 2).map (fun i => (i.zero, i.size, i.bytes)) = some (some (.int .i64 0), 1, 8) := by kernel_rfl

/-- Numbers as cells. -/
def intVals (l : List Int) : List Value := l.map (Value.int .i64)
theorem intVals_length (l : List Int) : (intVals l).length = l.length := by simp [intVals]
theorem intVals_snoc (l : List Int) (x : Int) : intVals l ++ [.int .i64 x] = intVals (l ++ [x]) := by simp [intVals]
theorem intVals_at (l : List Int) (k : Nat) (h : k < l.length) : (intVals l)[k]? = some (.int .i64 l[k]) := by simp [intVals, h]

/-- A slice of the call's own reads as numbers. -/
def Own (w : World) (base : Nat) (v : Value) (l : List Int) : Prop := w.ownsRow base 2 1 v l.length (intVals l)

theorem own_shape {w : World} {base : Nat} {e : TypeId} {size n : Nat} {v : Value} {xs : List Value} (h : w.ownsRow base e size v n xs) : ∃ A c, v = .slice A n c := by
  rcases h.2 with ⟨rfl, rfl⟩ | ⟨g, cap, cur, rfl, _⟩
  · exact ⟨_, _, rfl⟩
  · exact ⟨_, _, rfl⟩
theorem own_some {w : World} {base : Nat} {e : TypeId} {size n : Nat} {v : Value} {xs : List Value} (h : w.ownsRow base e size v n xs) (hn : 0 < n) : ∃ g c, v = .slice (some ⟨g, 0, none⟩) n c ∧ base ≤ g ∧ g < w.heap.size ∧ n ≤ c ∧ c ≤ maxLen := by
  rcases h.2 with ⟨rfl, rfl⟩ | ⟨g, cap, cur, rfl, hb, hg, hl, hm, _⟩
  · omega
  · refine ⟨g, cap, rfl, hb, ?_, hl, hm⟩
    rcases Nat.lt_or_ge g w.heap.size with h' | h'
    · exact h'
    · rw [Array.getElem?_eq_none h'] at hg; cases hg
theorem own_len {w : World} {base : Nat} {e : TypeId} {size n : Nat} {v : Value} {xs : List Value} (h : w.ownsRow base e size v n xs) : n ≤ maxLen := by
  rcases h.2 with ⟨rfl, rfl⟩ | ⟨g, cap, cur, rfl, hb, hg, hl, hm, _⟩
  · exact Nat.zero_le _
  · omega
/-- A row below a number stays where nothing below it turns. -/
theorem own_below {w w' : World} {base : Nat} {e : TypeId} {size n : Nat} {v : Value} {xs : List Value} (h : w.ownsRow base e size v n xs) (hb : Below w.heap.size w w') : w'.ownsRow base e size v n xs := by
  refine ⟨h.1, ?_⟩
  rcases h.2 with h' | ⟨g, cap, cur, rfl, h1, hg, h2, h3, h4, h5⟩
  · exact .inl h'
  · have hlt : g < w.heap.size := by
      rcases Nat.lt_or_ge g w.heap.size with h' | h'
      · exact h'
      · rw [Array.getElem?_eq_none h'] at hg; cases hg
    exact .inr ⟨g, cap, cur, rfl, h1, by rw [hb.block g hlt]; exact hg, h2, h3, h4, h5⟩
theorem own_drewN {w : World} {base : Nat} {e : TypeId} {size n : Nat} {v : Value} {xs : List Value} (h : w.ownsRow base e size v n xs) (q : Nat) : (w.drewN q).ownsRow base e size v n xs := h
/-- A row below a base stays where another row from that base on is written. -/
theorem own_kept {w w' : World} {base base2 : Nat} {e : TypeId} {size n : Nat} {v v2 : Value} {xs : List Value} (h : w.ownsRow base e size v n xs) (hlt : ∀ k, v.ownBlock = some k → k < base2) (hg : w.grownBy w' v2.ownBlock) (h2 : ∀ k, v2.ownBlock = some k → base2 ≤ k) : w'.ownsRow base e size v n xs := by
  refine h.kept hg ?_
  cases hv : v.ownBlock with
  | none => exact .inl rfl
  | some k =>
    refine .inr fun e' => ?_
    have := hlt k hv
    have := h2 k e'.symm
    omega

set_option maxRecDepth 100000 in
/-- eqInt64S over two rows that read as the same numbers. -/
theorem eqInt64S_yes (w : World) (b1 b2 : Nat) (v1 v2 : Value) (l : List Int) (h1 : Own w b1 v1 l) (h2 : Own w b2 v2 l) :
    Calls Try.prog 24 #[v1, v2] w fun e w' => e = .returned (.bool true) ∧ ∃ q, w' = w.drewN q := by
  have hlen := own_len h1
  unfold Own at h1 h2
  generalize hn : l.length = n at h1 h2 hlen
  have hne : ((n : Int) != (n : Int)) = false := by simp
  unfold maxLen at hlen
  obtain ⟨A1, c1, rfl⟩ := own_shape h1
  obtain ⟨A2, c2, rfl⟩ := own_shape h2
  by_cases h0 : n = 0
  · subst h0
    go_enter Try.func24, Try.ntmps24
    go_wp2
    refine wp_loop_rounds 1 ?_
    rw [rounds_succ]
    go_wp2
    go_ret
    exact ⟨rfl, 0, rfl⟩
  · obtain ⟨g1, k1, e1, -, -, -, -⟩ := own_some h1 (by omega)
    obtain ⟨g2, k2, e2, -, -, -, -⟩ := own_some h2 (by omega)
    injection e1 with e1 _ e1'
    injection e2 with e2 _ e2'
    subst e1 e2
    have H1 := Lib.hid h1
    have H2 := Lib.hid h2
    have HN := Lib.hid hn
    clear h1 h2 hn h0 e1' e2'
    go_enter Try.func24, Try.ntmps24
    go_wp2
    go_loopw [5] (fun i wr => ∃ k q : Nat, k ≤ n ∧ i = .int .i64 k ∧ wr = w.drewN q) (fun i _ => n - (intOf i).toNat)
    case atStart => exact ⟨0, 0, Nat.zero_le _, rfl, rfl⟩
    case round =>
      obtain ⟨k, q, hk, rfl, rfl⟩ := hrel
      by_cases hlt : k < n
      · have hk0 : (0 : Int) ≤ (k : Int) := by omega
        have hk1 : (k : Int) < (n : Int) := by omega
        have hc1 := (H1.out.cellAt k (by omega)).trans (intVals_at l k (by have := HN.out; omega))
        have hc2 := (H2.out.cellAt k (by omega)).trans (intVals_at l k (by have := HN.out; omega))
        generalize l[k]'(by have := HN.out; omega) = x at hc1 hc2
        go_wp2
        go_quiet (fail)
        go_wp2
        go_roundw
        case rel => exact ⟨k + 1, _, by omega, by go_num, rfl⟩
        case measure => simp [intOf]; omega
      · go_wp2
        go_ret
        exact ⟨rfl, _, rfl⟩

/-- The marks k, k + 1, .. -/
def marks (k : Int) (n : Nat) : List Int := (List.range n).map fun j => k + (j : Nat)
theorem marks_length (k : Int) (n : Nat) : (marks k n).length = n := by simp [marks]

def mpart (k : Int) (l : List Int) (j : Nat) : List Value := intVals (marks k j ++ l.drop j)
theorem mpart_zero (k : Int) (l : List Int) : mpart k l 0 = intVals l := by simp [mpart, marks]
theorem mpart_full (k : Int) (l : List Int) : mpart k l l.length = intVals (marks k l.length) := by simp [mpart]
theorem mpart_length (k : Int) (l : List Int) (j : Nat) (h : j ≤ l.length) : (mpart k l j).length = l.length := by simp [mpart, intVals, marks]; omega
theorem mpart_set (k : Int) (l : List Int) (j : Nat) (h : j < l.length) : (mpart k l j).set j (.int .i64 (k + j)) = mpart k l (j + 1) := by
  unfold mpart intVals
  rw [← List.map_set, List.set_append, if_neg (by rw [marks_length]; omega), marks_length, Nat.sub_self]
  congr 1
  rw [show marks k (j + 1) = marks k j ++ [k + (j : Nat)] from by simp [marks, List.range_succ]]
  have e : (l.drop j).set 0 (k + (j : Int)) = (k + (j : Int)) :: l.drop (j + 1) := by rw [List.drop_eq_getElem_cons h]; rfl
  rw [e, List.append_assoc]
  rfl

/-- A mark of a row from a base on keeps what lies below the base. -/
theorem below_mark {B base : Nat} {w wr w1 : World} {n : Nat} {v : Value} {xs : List Value} {e : TypeId} (hb : Below B w wr) (hB : B ≤ base) (hB2 : B ≤ wr.heap.size) (hown : wr.ownsRow base e 1 v n xs) (hg : wr.grownBy w1 v.ownBlock) : Below B w w1 :=
  hb.grown hg hB2 (fun k hk => by have := (hown.lt k hk).1; omega)

end Go.Proofs.Ytddlpbpcdjddpaa
