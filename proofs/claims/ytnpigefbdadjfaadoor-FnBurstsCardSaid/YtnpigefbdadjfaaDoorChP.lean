/- Checks of sums, of frames, of bent frames. -/
import Derived.Test.YtnpigefbdadjfaaDoorMfP
import Derived.Test.YtnpigefbdadjfaaDoorXorI
namespace Go.Proofs.YtnpigefbdadjfaaDoor
open Go Go.RowKit
set_option linter.unusedVariables false

theorem bit_of {l : List UInt8} (h : inR 48 49 l = true) (k : Nat) (hk : k < l.length) : l[k] = 48 ∨ l[k] = 49 := by
  have := of_decide_eq_true (List.all_eq_true.1 h _ (List.getElem_mem hk))
  rcases (show l[k].toNat = 48 ∨ l[k].toNat = 49 by omega) with e | e
  · exact .inl (UInt8.toNat_inj.1 e)
  · exact .inr (UInt8.toNat_inj.1 e)
theorem take_s (l : List UInt8) (k : Nat) (h : k < l.length) : l.take (k + 1) = l.take k ++ [l[k]] := by rw [List.take_add_one]; simp [h]
theorem nbl_xorB (a b : List UInt8) (ha : inR 48 49 a = true) (hb : inR 48 49 b = true) (hab : a.length = b.length) : ∀ k, k ≤ a.length → nbl (xorB a b k) = nbl (a.take k) ^^^ nbl (b.take k)
  | 0, _ => by rw [List.take_zero, List.take_zero]; rfl
  | k + 1, h => by
    have hk : k < a.length := by omega
    have hk2 : k < b.length := by omega
    rw [xorB_succ, nbl_snoc, nbl_xorB a b ha hb hab k (by omega), take_s a k hk, take_s b k hk2, nbl_snoc, nbl_snoc, List.getElem?_eq_getElem hk, List.getElem?_eq_getElem hk2]
    rcases bit_of ha k hk with e1 | e1 <;> rcases bit_of hb k hk2 with e2 | e2 <;> rw [e1, e2]
    · rw [if_pos rfl]; exact xor_twice _ _ 0 0 (by omega) (by omega)
    · rw [if_neg (by decide)]; exact xor_twice _ _ 0 1 (by omega) (by omega)
    · rw [if_neg (by decide)]; exact xor_twice _ _ 1 0 (by omega) (by omega)
    · rw [if_pos rfl]; exact xor_twice _ _ 1 1 (by omega) (by omega)
theorem nbl_xor (a b : List UInt8) (ha : inR 48 49 a = true) (hb : inR 48 49 b = true) (hab : a.length = b.length) : nbl (xorB a b a.length) = nbl a ^^^ nbl b := by
  rw [nbl_xorB a b ha hb hab a.length (Nat.le_refl _), List.take_length, hab, List.take_length]
theorem xorB_inR (a b : List UInt8) (k : Nat) : inR 48 49 (xorB a b k) = true := by
  unfold inR xorB
  rw [List.all_eq_true]
  intro x hx
  obtain ⟨j, -, rfl⟩ := List.mem_map.1 hx
  split <;> decide
/-- A digit, by its bit. -/
theorem dg_bit (u i : Nat) : dg (u : Int) i = if u / 2 ^ i % 2 = 0 then 48 else 49 := by
  have hd := dg_val (u : Int) i
  have he : ((u : Int) / 2 ^ i % 2) = ((u / 2 ^ i % 2 : Nat) : Int) := by rw [Int.natCast_emod, Int.natCast_ediv]; congr 2
  rw [he] at hd
  have := Nat.mod_lt (u / 2 ^ i) (show 0 < 2 by omega)
  by_cases h : u / 2 ^ i % 2 = 0
  · rw [if_pos h]
    rw [h] at hd
    exact UInt8.toNat_inj.1 (show (dg (u : Int) i).toNat = 48 by omega)
  · rw [if_neg h]
    rw [show u / 2 ^ i % 2 = 1 by omega] at hd
    exact UInt8.toNat_inj.1 (show (dg (u : Int) i).toNat = 49 by omega)
theorem xor_bit (u v i : Nat) : (u ^^^ v) / 2 ^ i % 2 = if u / 2 ^ i % 2 = v / 2 ^ i % 2 then 0 else 1 := by
  have h : (u ^^^ v) / 2 ^ i = u / 2 ^ i ^^^ v / 2 ^ i := Nat.xor_div_two_pow
  rw [h, mod_xor]
  have h1 := Nat.mod_lt (u / 2 ^ i) (show 0 < 2 by omega)
  have h2 := Nat.mod_lt (v / 2 ^ i) (show 0 < 2 by omega)
  generalize u / 2 ^ i % 2 = x at *
  generalize v / 2 ^ i % 2 = y at *
  rcases (show x = 0 ∨ x = 1 by omega) with rfl | rfl <;> rcases (show y = 0 ∨ y = 1 by omega) with rfl | rfl <;> rfl
theorem digs_at (u D k : Nat) (h : k < D) : (digs (u : Int) D D)[k]? = some (dg (u : Int) (D - 1 - k)) := by
  unfold digs
  rw [List.getElem?_map, List.getElem?_range h]; rfl
theorem xorB_digs (u v D : Nat) : ∀ k, k ≤ D → xorB (digs (u : Int) D D) (digs (v : Int) D D) k = digs ((u ^^^ v : Nat) : Int) D k
  | 0, _ => rfl
  | k + 1, h => by
    rw [xorB_succ, xorB_digs u v D k (by omega), digs_succ, digs_at u D k (by omega), digs_at v D k (by omega), dg_bit, dg_bit, dg_bit, xor_bit]
    congr 2
    have h1 := Nat.mod_lt (u / 2 ^ (D - 1 - k)) (show 0 < 2 by omega)
    have h2 := Nat.mod_lt (v / 2 ^ (D - 1 - k)) (show 0 < 2 by omega)
    generalize u / 2 ^ (D - 1 - k) % 2 = x at *
    generalize v / 2 ^ (D - 1 - k) % 2 = y at *
    rcases (show x = 0 ∨ x = 1 by omega) with rfl | rfl <;> rcases (show y = 0 ∨ y = 1 by omega) with rfl | rfl <;> simp
theorem mul_xor (x y k : Nat) : (x ^^^ y) * 2 ^ k = x * 2 ^ k ^^^ y * 2 ^ k := by
  rw [← Nat.shiftLeft_eq, Nat.shiftLeft_xor_distrib, Nat.shiftLeft_eq, Nat.shiftLeft_eq]
/-- The check of a sum is the sum of the checks. -/
theorem cbL_xor (P : Nat) (a b : List UInt8) (hg : Deg P (Nat.log2 P)) (ha : inR 48 49 a = true) (hb : inR 48 49 b = true) (hab : a.length = b.length) :
    cbL P (xorB a b a.length) = xorB (cbL P a) (cbL P b) (Nat.log2 P) := by
  unfold cbL
  rw [xorB_digs _ _ _ _ (Nat.le_refl _)]
  unfold rmN
  rw [nbl_xor a b ha hb hab, mul_xor, rd_x hg]
theorem disj_xor (n r D : Nat) (hr : r < 2 ^ D) : n * 2 ^ D + r = n * 2 ^ D ^^^ r := by
  have h := mod_as_xor (n * 2 ^ D + r) D
  have h1 : (n * 2 ^ D + r) % 2 ^ D = r := by rw [Nat.mul_comm, Nat.mul_add_mod, Nat.mod_eq_of_lt hr]
  have h2 : (n * 2 ^ D + r) / 2 ^ D = n := by rw [Nat.mul_comm, Nat.mul_add_div (Nat.two_pow_pos D), Nat.div_eq_of_lt hr, Nat.add_zero]
  rw [h1, h2] at h
  have := congrArg (· ^^^ (n * 2 ^ D)) h
  simp only [Nat.xor_assoc, Nat.xor_self, Nat.xor_zero] at this
  rw [← this, Nat.xor_comm]
theorem nbl_appT (b a : List UInt8) : ∀ k, k ≤ b.length → nbl (a ++ b.take k) = nbl a * 2 ^ k + nbl (b.take k)
  | 0, _ => by rw [List.take_zero, List.append_nil]; show nbl a = nbl a * 1 + 0; omega
  | k + 1, h => by
    have hk : k < b.length := by omega
    rw [take_s b k hk, ← List.append_assoc, nbl_snoc, nbl_snoc, nbl_appT b a k (by omega), Nat.pow_succ, ← Nat.mul_assoc, Nat.mul_add]
    generalize nbl a * 2 ^ k = X
    omega
theorem nbl_app (b a : List UInt8) (hb : inR 48 49 b = true) : nbl (a ++ b) = nbl a * 2 ^ b.length + nbl b := by
  have := nbl_appT b a b.length (Nat.le_refl _)
  rw [List.take_length] at this
  exact this
theorem nbl_lt (b : List UInt8) (hb : inR 48 49 b = true) : nbl b < 2 ^ b.length := by
  have := nbits_lt (btN b) 0 (inR_btN hb)
  rw [btN_len] at this
  unfold nbl; omega
theorem cbL_inR (P : Nat) (l : List UInt8) : inR 48 49 (cbL P l) = true := digs_inR _ _ _
theorem cbL_nbl (P : Nat) (l : List UInt8) (hg : Deg P (Nat.log2 P)) : nbl (cbL P l) = rmN P l := by
  have hr : rmN P l < 2 ^ Nat.log2 P := rd_lt hg _
  unfold cbL
  rw [nbl_digs _ _ hr _ (Nat.le_refl _), Nat.sub_self, Nat.pow_zero, Nat.div_one]
/-- A frame has its check. -/
theorem frame_rd (P : Nat) (l : List UInt8) (hg : Deg P (Nat.log2 P)) : rd P (Nat.log2 P) (nbl (l ++ cbL P l)) = 0 := by
  have hr : rmN P l < 2 ^ Nat.log2 P := rd_lt hg _
  rw [nbl_app _ _ (cbL_inR P l), cbL_len, cbL_nbl P l hg, disj_xor _ _ _ hr, rd_x hg]
  unfold rmN
  rw [rd_rd hg, Nat.xor_self]
/-- One bit is bent. -/
theorem bent_nbl (a b : List UInt8) (c d : UInt8) (hb : inR 48 49 b = true) (hcd : (c = 48 ∧ d = 49) ∨ (c = 49 ∧ d = 48)) : nbl (a ++ [d] ++ b) = nbl (a ++ [c] ++ b) ^^^ 2 ^ b.length := by
  have ht := nbl_lt b hb
  rw [nbl_app b _ hb, nbl_app b _ hb, nbl_snoc, nbl_snoc, disj_xor _ _ _ ht, disj_xor _ _ _ ht]
  have e : 2 * nbl a + (d.toNat - 48) = (2 * nbl a + (c.toNat - 48)) ^^^ 1 := by
    rcases hcd with ⟨rfl, rfl⟩ | ⟨rfl, rfl⟩
    · have := xor_twice (nbl a) 0 0 1 (by omega) (by omega)
      rw [Nat.xor_zero, Nat.mul_zero, Nat.zero_add] at this
      exact this
    · have := xor_twice (nbl a) 0 1 1 (by omega) (by omega)
      rw [Nat.xor_zero, Nat.mul_zero, Nat.zero_add] at this
      exact this
  rw [e, mul_xor, Nat.one_mul, Nat.xor_assoc, Nat.xor_comm (2 ^ b.length), ← Nat.xor_assoc]
theorem pc_pow (j : Nat) : pc (2 ^ j) = 1 := by
  have := pc_app j 1 0 (Nat.two_pow_pos j)
  rw [Nat.one_mul, Nat.add_zero, pc_zero] at this
  rw [this, pc_step, pc_zero]
theorem hits_some (f : Nat → Bool) (x : Nat) (hx : f x = true) : ∀ n, x < n → 0 < hits f n
  | 0, h => by omega
  | n + 1, h => by
    rw [hits_succ]
    by_cases e : x = n
    · subst e; rw [hx]; simp
    · have := hits_some f x hx n (by omega); omega
/-- If a bent frame has its check, one changed bit can be missed. -/
theorem bent_missed (P : Nat) (a b : List UInt8) (c d : UInt8) (hg : Deg P (Nat.log2 P)) (hb : inR 48 49 b = true) (hcd : (c = 48 ∧ d = 49) ∨ (c = 49 ∧ d = 48))
    (h0 : rd P (Nat.log2 P) (nbl (a ++ [c] ++ b)) = 0) (h1 : rd P (Nat.log2 P) (nbl (a ++ [d] ++ b)) = 0) : 0 < cmN P (Nat.log2 P) (a.length + 1 + b.length) 1 := by
  rw [bent_nbl a b c d hb hcd, rd_x hg, h0, Nat.zero_xor] at h1
  refine hits_some _ (2 ^ b.length) ?_ _ (Nat.pow_lt_pow_right (by omega) (by omega))
  rw [hitB_at, pc_pow, h1]; rfl
end Go.Proofs.YtnpigefbdadjfaaDoor
