/- Plain facts on scrambled bits, without the program. -/
import Derived.Test.YtddlpbpcdjddpaaRgP
namespace Go.Proofs.Ytddlpbpcdjddpaa
set_option linter.unusedVariables false
open Go Go.RowKit
/-- The bits of a state, in the order in which they came; those of a text. -/
def stQ (s : List UInt8) : List Nat := s.reverse.map fun c => c.toNat - 48
def gb (s : List UInt8) : List Nat := s.map fun c => c.toNat - 48
theorem stQ_len (s : List UInt8) : (stQ s).length = s.length := by simp [stQ]
theorem gb_len (s : List UInt8) : (gb s).length = s.length := by simp [gb]
theorem gb_bits {s : List UInt8} (h : inR 48 49 s = true) : bitsN (gb s) := by
  intro x hx
  unfold gb at hx
  obtain ⟨c, hc, rfl⟩ := List.mem_map.1 hx
  have := of_decide_eq_true (List.all_eq_true.1 h c hc)
  omega
theorem stQ_bits {s : List UInt8} (h : inR 48 49 s = true) : bitsN (stQ s) := by
  intro x hx
  unfold stQ at hx
  obtain ⟨c, hc, rfl⟩ := List.mem_map.1 hx
  have := of_decide_eq_true (List.all_eq_true.1 h c (List.mem_reverse.1 hc))
  omega
theorem stQ_at (s : ByteArray) (k : Nat) (h : k < s.size) : (stQ s.data.toList)[k]'(by rw [stQ_len]; simpa using h) = (s[s.size - 1 - k]'(by omega)).toNat - 48 := by
  unfold stQ
  simp only [List.getElem_map, List.getElem_reverse]
  rfl
theorem stQ_get (s : ByteArray) (k : Nat) (h : k < s.size) : (stQ s.data.toList).getD k 0 = (s[s.size - 1 - k]'(by omega)).toNat - 48 := by
  rw [List.getD, List.getElem?_eq_getElem (by rw [stQ_len]; simpa using h)]
  exact stQ_at s k h
theorem bitsN_app {a b : List Nat} (ha : bitsN a) (hb : bitsN b) : bitsN (a ++ b) := fun x hx => (List.mem_append.1 hx).elim (ha x) (hb x)
theorem bitsN_one {x : Nat} (h : x ≤ 1) : bitsN [x] := fun y hy => by simp at hy; omega
/-- One more bit: the sequence, and the bits that have been made. -/
def scG (d : Bool) (l : List Int) (p : List Nat × List Nat) (b : Nat) : List Nat × List Nat :=
  (p.1 ++ [if d then b else b ^^^ sm l p.1], p.2 ++ [b ^^^ sm l p.1])
def scF (d : Bool) (l : List Int) (q bs : List Nat) : List Nat × List Nat := bs.foldl (scG d l) (q, [])
theorem scF_snoc (d : Bool) (l : List Int) (q bs : List Nat) (b : Nat) : scF d l q (bs ++ [b]) = scG d l (scF d l q bs) b := by simp [scF]
theorem scF_take (d : Bool) (l : List Int) (q : List Nat) (s : ByteArray) (k : Nat) (h : k < s.size) : scF d l q (gb (s.data.toList.take (k + 1))) = scG d l (scF d l q (gb (s.data.toList.take k))) (s[k].toNat - 48) := by
  rw [take_snoc s k h, show gb (s.data.toList.take k ++ [s[k]]) = gb (s.data.toList.take k) ++ [s[k].toNat - 48] from by simp [gb], scF_snoc]
theorem snoc_ind {P : List Nat → Prop} (h0 : P []) (h1 : ∀ l x, P l → P (l ++ [x])) (l : List Nat) : P l := by
  have : ∀ n (l : List Nat), l.length = n → P l := by
    intro n
    induction n with
    | zero => intro l hl; rw [List.length_eq_zero_iff.1 hl]; exact h0
    | succ n ih =>
      intro l hl
      have hne : l ≠ [] := by intro e; subst e; simp at hl
      rw [← List.dropLast_concat_getLast hne]
      exact h1 _ _ (ih _ (by simp [hl]))
  exact this _ l rfl
theorem scF_ok (d : Bool) (l : List Int) (q : List Nat) (hq : bitsN q) (bs : List Nat) : bitsN bs → bitsN (scF d l q bs).1 ∧ bitsN (scF d l q bs).2 ∧ (scF d l q bs).1.length = q.length + bs.length ∧ (scF d l q bs).2.length = bs.length := by
  refine snoc_ind (P := fun bs => bitsN bs → bitsN (scF d l q bs).1 ∧ bitsN (scF d l q bs).2 ∧ (scF d l q bs).1.length = q.length + bs.length ∧ (scF d l q bs).2.length = bs.length) ?_ ?_ bs
  · intro _
    exact ⟨hq, (fun (x : Nat) (hx : x ∈ ([] : List Nat)) => nomatch hx : bitsN []), rfl, rfl⟩
  · intro bs b ih hb
    obtain ⟨h1, h2, h3, h4⟩ := ih (fun x hx => hb x (List.mem_append_left _ hx))
    have hb1 := hb b (List.mem_append_right _ (List.mem_cons_self ..))
    have hx := xor_le hb1 (sm_le h1 l)
    rw [scF_snoc]
    unfold scG
    refine ⟨bitsN_app h1 (bitsN_one (by split <;> assumption)), bitsN_app h2 (bitsN_one hx), ?_, ?_⟩
    · simp [h3]; omega
    · simp [h4]
/-- Scrambling: the sequence is the state and what has been made. -/
theorem scF_made (l : List Int) (q bs : List Nat) : (scF false l q bs).1 = q ++ (scF false l q bs).2 := by
  refine snoc_ind (P := fun bs => (scF false l q bs).1 = q ++ (scF false l q bs).2) (by simp [scF]) ?_ bs
  intro bs b ih
  rw [scF_snoc]
  unfold scG
  simp only [ih, List.append_assoc]
  simp
/-- Bits as bytes. -/
def tx (M : List Nat) : List UInt8 := M.map fun m => UInt8.ofNat (48 + m)
theorem tx_len (M : List Nat) : (tx M).length = M.length := by simp [tx]
theorem tx_snoc (M : List Nat) (m : Nat) : tx (M ++ [m]) = tx M ++ [UInt8.ofNat (48 + m)] := by simp [tx]
theorem tx_byte {m : Nat} (h : m ≤ 1) : ((UInt8.ofNat (48 + m)).toNat : Int) = 48 + (m : Int) := by
  have : m = 0 ∨ m = 1 := by omega
  rcases this with rfl | rfl <;> rfl
def scbOk (l : List Int) (s g : List UInt8) : Bool := scOk l s && isB g
def scbL (d : Bool) (l : List Int) (s g : List UInt8) : List UInt8 := tx (scF d l (stQ s) (gb g)).2
def scbV (d : Bool) (l : List Int) (s g : List UInt8) : ByteArray := if scbOk l s g then ⟨(scbL d l s g).toArray⟩ else ⟨#[]⟩
theorem scbV_no {d : Bool} {l : List Int} {s g : List UInt8} (h : scbOk l s g = false) : scbV d l s g = ⟨#[]⟩ := by unfold scbV; rw [h]; rfl
theorem scbV_yes {d : Bool} {l : List Int} {s g : List UInt8} (h : scbOk l s g = true) : scbV d l s g = ⟨(scbL d l s g).toArray⟩ := by unfold scbV; rw [h]; rfl
theorem u8_xor {a b : Nat} (ha : a ≤ 1) (hb : b ≤ 1) : bits .xor .u8 (a : Int) (b : Int) = ((a ^^^ b : Nat) : Int) := by
  have h1 : a = 0 ∨ a = 1 := by omega
  have h2 : b = 0 ∨ b = 1 := by omega
  rcases h1 with rfl | rfl <;> rcases h2 with rfl | rfl <;> decide +kernel
end Go.Proofs.Ytddlpbpcdjddpaa
