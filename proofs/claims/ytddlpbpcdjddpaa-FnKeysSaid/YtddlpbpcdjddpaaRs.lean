/- Slices of texts that are read: arguments and rows of the call's own; the law's own copy, comparison and count of them. -/
import Derived.Test.YtddlpbpcdjddpaaPl
import Derived.Test.YtddlpbpcdjddpaaProg
import Derived.OwnWalk
import Derived.WalkSpells
import Derived.WalkSmall
import Derived.Deep.AppendLies
import Derived.Deep.QuietTactic
import Derived.BigQuiet
import Derived.SliceStrings
namespace Go.Proofs.Ytddlpbpcdjddpaa
open Go Go.RowKit
set_option linter.unusedVariables false

theorem Try.infoStr : (Try.prog.info? 9).map (fun i => (i.zero, i.size, i.bytes)) = some (some (.string ByteArray.empty), 1, 16) := by kernel_rfl

/-- Texts as cells. -/
def strVals (l : List ByteArray) : List Value := l.map Value.string
theorem strVals_length (l : List ByteArray) : (strVals l).length = l.length := by simp [strVals]
theorem strVals_snoc (l : List ByteArray) (x : ByteArray) : strVals l ++ [.string x] = strVals (l ++ [x]) := by simp [strVals]
theorem strVals_at (l : List ByteArray) (k : Nat) (h : k < l.length) : (strVals l)[k]? = some (.string l[k]) := by simp [strVals, h]

/-- A slice of the call's own reads as texts. -/
def OwnT (w : World) (base : Nat) (v : Value) (l : List ByteArray) : Prop := w.ownsRow base 9 1 v l.length (strVals l)

theorem ownt_shape {w : World} {base : Nat} {e : TypeId} {size n : Nat} {v : Value} {xs : List Value} (h : w.ownsRow base e size v n xs) : ∃ A c, v = .slice A n c := by
  rcases h.2 with ⟨rfl, rfl⟩ | ⟨g, cap, cur, rfl, _⟩
  · exact ⟨_, _, rfl⟩
  · exact ⟨_, _, rfl⟩
theorem ownt_len {w : World} {base : Nat} {e : TypeId} {size n : Nat} {v : Value} {xs : List Value} (h : w.ownsRow base e size v n xs) : n ≤ maxLen := by
  rcases h.2 with ⟨rfl, rfl⟩ | ⟨g, cap, cur, rfl, hb, hg, hl, hm, _⟩
  · exact Nat.zero_le _
  · omega

/-- A row below a number stays where nothing below it turns. -/
theorem ownt_below {w w' : World} {base : Nat} {e : TypeId} {size n : Nat} {v : Value} {xs : List Value} (h : w.ownsRow base e size v n xs) (hb : Below w.heap.size w w') : w'.ownsRow base e size v n xs := by
  refine ⟨h.1, ?_⟩
  rcases h.2 with h' | ⟨g, cap, cur, rfl, h1, hg, h2, h3, h4, h5⟩
  · exact .inl h'
  · have hlt : g < w.heap.size := by
      rcases Nat.lt_or_ge g w.heap.size with h' | h'
      · exact h'
      · rw [Array.getElem?_eq_none h'] at hg; cases hg
    exact .inr ⟨g, cap, cur, rfl, h1, by rw [hb.block g hlt]; exact hg, h2, h3, h4, h5⟩

/-- A slice value reads as texts. -/
def RdS (w : World) (v : Value) (l : List ByteArray) : Prop :=
  ∃ (A : Option Addr) (n c : Nat), v = .slice A n c ∧ l.length = n ∧ n ≤ c ∧ c ≤ maxLen ∧
    (0 < n → ∃ b o, A = some ⟨b, o, none⟩ ∧ b < w.heap.size ∧ ∀ i (h : i < l.length), w.cell? ⟨b, o + i, none⟩ = some (.string l[i]))
theorem RdS.keep {w w' : World} {v : Value} {l : List ByteArray} (h : RdS w v l) (hb : Below w.heap.size w w') : RdS w' v l := by
  obtain ⟨A, n, c, e, hn, h1, h2, h3⟩ := h
  refine ⟨A, n, c, e, hn, h1, h2, fun h0 => ?_⟩
  obtain ⟨b, o, ea, hlt, hc⟩ := h3 h0
  exact ⟨b, o, ea, Nat.lt_of_lt_of_le hlt hb.size, fun i hi => (hb.cell (p := ⟨b, o + i, none⟩) hlt).trans (hc i hi)⟩
theorem RdS.drewN {w : World} {v : Value} {l : List ByteArray} (h : RdS w v l) (q : Nat) : RdS (w.drewN q) v l := by
  obtain ⟨A, n, c, e, hn, h1, h2, h3⟩ := h
  refine ⟨A, n, c, e, hn, h1, h2, fun h0 => ?_⟩
  obtain ⟨b, o, ea, hlt, hc⟩ := h3 h0
  exact ⟨b, o, ea, by simpa using hlt, fun i hi => by simpa using hc i hi⟩
theorem RdS.len {w : World} {v : Value} {l : List ByteArray} (h : RdS w v l) : l.length ≤ maxLen := by
  obtain ⟨A, n, c, e, hn, h1, h2, h3⟩ := h
  omega
theorem rds_sh {w : World} {v : Value} {l : List ByteArray} (h : RdS w v l) : ∃ A c, v = .slice A l.length c := by
  obtain ⟨A, n, c, e, hn, -⟩ := h
  exact ⟨A, c, by rw [e, hn]⟩
/-- A row of the call's own is one. -/
theorem OwnT.rds {w : World} {base : Nat} {v : Value} {l : List ByteArray} (h : OwnT w base v l) : RdS w v l := by
  have hl := ownt_len h
  rcases h.2 with ⟨rfl, h0⟩ | ⟨g, cap, cur, rfl, h1, hg, h2, h3, h4, h5⟩
  · exact ⟨none, 0, 0, rfl, h0, Nat.le_refl _, Nat.zero_le _, fun h => by omega⟩
  · refine ⟨_, _, _, rfl, rfl, h2, h3, fun _ => ⟨g, 0, rfl, ?_, fun i hi => ?_⟩⟩
    · rcases Nat.lt_or_ge g w.heap.size with h' | h'
      · exact h'
      · rw [Array.getElem?_eq_none h'] at hg; cases hg
    · have := (World.ownsRow.cellAt (w := w) (base := base) h i (by omega)).trans (strVals_at l i hi)
      rw [Nat.zero_add]; exact this
theorem OwnT.keep {w w' : World} {base : Nat} {v : Value} {l : List ByteArray} (h : OwnT w base v l) (hb : Below w.heap.size w w') : OwnT w' base v l := ownt_below h hb
theorem OwnT.set {w : World} {base : Nat} {v : Value} {l : List ByteArray} (h : OwnT w base v l) {a : Addr} (ha : a.block < base) (x : Value) : OwnT (w.setCell a x) base v l := ownsRow_setCell_below h ha x

theorem OwnT.base {w : World} {base base' : Nat} {v : Value} {l : List ByteArray} (h : OwnT w base v l) (hle : base' ≤ base) : OwnT w base' v l := by
  refine ⟨h.1, ?_⟩
  rcases h.2 with h' | ⟨g, cap, cur, h1, h2, h3⟩
  · exact .inl h'
  · exact .inr ⟨g, cap, cur, h1, by omega, h3⟩

def spart (l : List ByteArray) (n k : Nat) : List Value := strVals (l.take k) ++ List.replicate (n - k) (Value.string ByteArray.empty)
theorem spart_zero (l : List ByteArray) (n : Nat) : spart l n 0 = List.replicate n (Value.string ByteArray.empty) := by simp [spart, strVals]
theorem spart_full (l : List ByteArray) (n : Nat) (h : l.length = n) : spart l n n = strVals l := by simp [spart, ← h]
theorem spart_length (l : List ByteArray) (n k : Nat) (h : l.length = n) (hk : k ≤ n) : (spart l n k).length = n := by simp [spart, strVals]; omega
theorem spart_set (l : List ByteArray) (n k : Nat) (hl : l.length = n) (hk : k < n) : (spart l n k).set k (.string (l[k]'(by omega))) = spart l n (k + 1) := by
  unfold spart
  have e : (strVals (l.take k)).length = k := by simp [strVals]; omega
  rw [List.set_append, if_neg (by omega), e, Nat.sub_self, List.take_succ_eq_append_getElem (by omega), ← strVals_snoc]
  obtain ⟨m, hm⟩ : ∃ m, n - k = m + 1 := ⟨n - k - 1, by omega⟩
  rw [hm, show n - (k + 1) = m from by omega, List.replicate_succ]
  simp

def szStr : Int → List ByteArray → Int
  | left, [] => left
  | left, s :: ss => if left - s.size < 0 then -1 else szStr (left - s.size) ss
def szS (g : List ByteArray) (left : Int) : Int := if left - g.length < 0 then -1 else szStr (left - g.length) g
theorem szStr_le : ∀ (ss : List ByteArray) (left : Int), 0 ≤ left → -1 ≤ szStr left ss ∧ szStr left ss ≤ left
  | [], left, h => by rw [szStr]; omega
  | r :: rs, left, h => by
    rw [szStr]
    split
    · omega
    · have := szStr_le rs (left - r.size) (by omega)
      omega
theorem szS_le (g : List ByteArray) (left : Int) (h : 0 ≤ left) : -1 ≤ szS g left ∧ szS g left ≤ left := by
  unfold szS
  split
  · omega
  · have := szStr_le g (left - g.length) (by omega)
    omega
theorem szStr_ok : ∀ (ss : List ByteArray) (left : Int), 0 ≤ szStr left ss → ∀ s ∈ ss, (s.size : Int) ≤ left
  | [], left, h, r, hr => by simp at hr
  | x :: rs, left, h, r, hr => by
    rw [szStr] at h
    split at h
    · omega
    · rcases List.mem_cons.1 hr with rfl | h'
      · omega
      · have := szStr_ok rs _ h r h'
        omega
theorem szS_ok (g : List ByteArray) (left : Int) (h : 0 ≤ szS g left) : (g.length : Int) ≤ left ∧ ∀ s ∈ g, (s.size : Int) ≤ left := by
  unfold szS at h
  split at h
  · omega
  · refine ⟨by omega, fun r hr => ?_⟩
    have := szStr_ok g _ h r hr
    omega

end Go.Proofs.Ytddlpbpcdjddpaa
