/- Numbers as bits, their weights; counts of the missed ones. -/
import Derived.Test.YtnpigefbdadjfaaDoorLmj
import Derived.Test.YtnpigefbdadjfaaDoorCkj
import Derived.Test.YtnpigefbdadjfaaDoorR8a
import Derived.Test.YtnpigefbdadjfaaDoorR8l
import Derived.Test.YtnpigefbdadjfaaDoorR8k
namespace Go.Proofs.YtnpigefbdadjfaaDoor
open Go Go.RowKit
set_option linter.unusedVariables false

theorem nbl_snoc (l : List UInt8) (c : UInt8) : nbl (l ++ [c]) = 2 * nbl l + (c.toNat - 48) := by
  have e : btN (l ++ [c]) = btN l ++ [c.toNat - 48] := by unfold btN; rw [List.map_append]; rfl
  have h := nb_snoc8 (btN l ++ [c.toNat - 48]) (btN l).length (by simp)
  rw [List.take_of_length_le (by simp), List.take_left', List.getElem_append_right (Nat.le_refl _)] at h
  · unfold nbl; rw [e, h]; simp
  · rfl
theorem nbl_digs (x L : Nat) (hx : x < 2 ^ L) : ∀ m, m ≤ L → nbl (digs (x : Int) L m) = x / 2 ^ (L - m)
  | 0, _ => by rw [Nat.sub_zero, Nat.div_eq_of_lt hx]; rfl
  | m + 1, h => by
    rw [digs_succ, nbl_snoc, nbl_digs x L hx m (by omega)]
    have hd := dg_val (x : Int) (L - 1 - m)
    have he : ((x : Int) / 2 ^ (L - 1 - m) % 2) = ((x / 2 ^ (L - 1 - m) % 2 : Nat) : Int) := by
      rw [Int.natCast_emod, Int.natCast_ediv]; congr 2
    rw [he] at hd
    have e1 : L - m = L - 1 - m + 1 := by omega
    have e2 : L - (m + 1) = L - 1 - m := by omega
    rw [e1, e2, Nat.pow_succ, ← Nat.div_div_eq_div_mul]
    omega
theorem digs_inR (x L : Nat) : ∀ m, inR 48 49 (digs (x : Int) L m) = true := by
  intro m
  unfold inR
  rw [List.all_eq_true]
  intro c hc
  unfold digs at hc
  obtain ⟨j, -, rfl⟩ := List.mem_map.1 hc
  have hd := dg_val (x : Int) (L - 1 - j)
  have h1 : 0 ≤ (x : Int) / 2 ^ (L - 1 - j) % 2 := Int.emod_nonneg _ (by decide)
  have h2 : (x : Int) / 2 ^ (L - 1 - j) % 2 < 2 := Int.emod_lt_of_pos _ (by decide)
  exact decide_eq_true (by omega)
theorem digs_isB (x L : Nat) (hL : L ≤ 9) : isB (digs (x : Int) L L) = true := by
  unfold isB
  rw [digs_inR, decide_eq_true (by rw [digs_length]; omega)]; rfl
theorem hc_digs (P x L : Nat) (hL : L ≤ 9) (hx : x < 2 ^ L) (hP : ckB (P : Int) = true) : hcB (P : Int) (digs (x : Int) L L) = decide (rd P (Nat.log2 P) x = 0) := by
  unfold hcB ckOk
  rw [hP, digs_isB x L hL, Int.toNat_natCast, nbl_digs x L hx L (Nat.le_refl _), Nat.sub_self, Nat.pow_zero, Nat.div_one]; rfl
/-- The law's counts, before x. -/
def ctL (p d x : Nat) : List Nat := [0, hits (hitB p d 1) x, hits (hitB p d 2) x, hits (hitB p d 3) x]
theorem pc_one : pc 0 = 0 := pc_zero
theorem ctL_one (p d : Nat) : ctL p d 1 = [0, 0, 0, 0] := by
  have h : ∀ c, 1 ≤ c → hits (hitB p d c) 1 = 0 := fun c hc => by
    show 0 + (if hitB p d c 0 then 1 else 0) = 0
    unfold hitB
    rw [pc_zero, decide_eq_false (by omega)]; rfl
  unfold ctL
  rw [h 1 (by omega), h 2 (by omega), h 3 (by omega)]
theorem hits_succ (f : Nat → Bool) (n : Nat) : hits f (n + 1) = hits f n + if f n then 1 else 0 := rfl
theorem hitB_at (p d c x : Nat) : hitB p d c x = (decide (pc x = c) && decide (rd p d x = 0)) := rfl
theorem ctL_no (p d x : Nat) (h : ¬ (pc x ≤ 3 ∧ rd p d x = 0) ∨ pc x = 0) : ctL p d (x + 1) = ctL p d x := by
  have hh : ∀ c, 1 ≤ c → c ≤ 3 → hits (hitB p d c) (x + 1) = hits (hitB p d c) x := fun c h1 h3 => by
    rw [hits_succ, hitB_at, if_neg]; · rfl
    intro e
    have h' := Bool.and_eq_true_iff.1 e
    have e1 := of_decide_eq_true h'.1
    have e2 := of_decide_eq_true h'.2
    rcases h with h | h
    · exact h ⟨by omega, e2⟩
    · omega
  unfold ctL
  rw [hh 1 (by omega) (by omega), hh 2 (by omega) (by omega), hh 3 (by omega) (by omega)]
theorem ctL_yes (p d x : Nat) (h0 : 0 < x) (h : pc x ≤ 3) (h2 : rd p d x = 0) : ctL p d (x + 1) = (ctL p d x).set (pc x) ((ctL p d x).getD (pc x) 0 + 1) := by
  have hp := pc_pos h0
  have hne : ∀ c, c ≠ pc x → hits (hitB p d c) (x + 1) = hits (hitB p d c) x := fun c hc => by
    rw [hits_succ, hitB_at, decide_eq_false (fun e => hc e.symm)]; rfl
  have heq : hits (hitB p d (pc x)) (x + 1) = hits (hitB p d (pc x)) x + 1 := by
    rw [hits_succ, hitB_at, decide_eq_true rfl, decide_eq_true h2]; rfl
  rcases (show pc x = 1 ∨ pc x = 2 ∨ pc x = 3 by omega) with e | e | e
  · rw [e] at heq hne ⊢
    unfold ctL
    rw [heq, hne 2 (by omega), hne 3 (by omega)]; rfl
  · rw [e] at heq hne ⊢
    unfold ctL
    rw [heq, hne 1 (by omega), hne 3 (by omega)]; rfl
  · rw [e] at heq hne ⊢
    unfold ctL
    rw [heq, hne 1 (by omega), hne 2 (by omega)]; rfl
theorem ctL_end (p d L c : Nat) (h1 : 1 ≤ c) (h3 : c ≤ 3) : (ctL p d (2 ^ L))[c]? = some (cmN p d L c) := by
  rcases (show c = 1 ∨ c = 2 ∨ c = 3 by omega) with rfl | rfl | rfl <;> rfl
theorem ctL_len (p d x : Nat) : (ctL p d x).length = 4 := rfl
theorem ctL_le (p d x c : Nat) : (ctL p d x).getD c 0 ≤ x := by
  have h := fun w => hits_le (hitB p d w) x
  rcases c with _ | _ | _ | _ | c
  · exact Nat.zero_le _
  · exact h 1
  · exact h 2
  · exact h 3
  · exact Nat.zero_le _
/-- The least count below k that can be missed, or 0. -/
def FsW (p d L k f : Nat) : Prop := (f = 0 ∧ lmL p d L k = []) ∨ (1 ≤ f ∧ f < k ∧ ∃ r, lmL p d L k = f :: r ∧ ∀ x ∈ r, f ≤ x)
theorem FsW.start (p d L : Nat) : FsW p d L 1 0 := .inl ⟨rfl, rfl⟩
theorem FsW.hit {p d L k f : Nat} (h : FsW p d L k f) (hk : 1 ≤ k) (hc : 0 < cmN p d L k) : FsW p d L (k + 1) (if f = 0 then k else f) := by
  have hs := lmL_succ p d L k hk
  rw [if_pos hc] at hs
  rcases h with ⟨rfl, h2⟩ | ⟨h1, h2, r, e, hr⟩
  · rw [if_pos rfl]
    exact .inr ⟨hk, by omega, [], by rw [hs, h2]; rfl, by simp⟩
  · rw [if_neg (by omega)]
    refine .inr ⟨h1, by omega, r ++ [k], by rw [hs, e]; rfl, fun x hx => ?_⟩
    rcases List.mem_append.1 hx with h' | h'
    · exact hr x h'
    · have := List.mem_singleton.1 h'; omega
theorem FsW.miss {p d L k f : Nat} (h : FsW p d L k f) (hk : 1 ≤ k) (hc : ¬ 0 < cmN p d L k) : FsW p d L (k + 1) f := by
  have hs := lmL_succ p d L k hk
  rw [if_neg hc] at hs
  rcases h with ⟨rfl, h2⟩ | ⟨h1, h2, r, e, hr⟩
  · exact .inl ⟨rfl, by rw [hs, h2]⟩
  · exact .inr ⟨h1, by omega, r, by rw [hs, e], hr⟩
theorem FsW.fin {p d L f : Nat} (h : FsW p d L 5 f) : (f = 0 ∧ decide (lmS p d L = []) = true) ∨ (1 ≤ f ∧ lsV (lmS p d L) = f ∧ decide (lmS p d L = []) = false) := by
  rcases h with ⟨rfl, h2⟩ | ⟨h1, h2, r, e, hr⟩
  · exact .inl ⟨rfl, by unfold lmS; rw [h2]; rfl⟩
  · refine .inr ⟨h1, ?_, ?_⟩
    · unfold lmS; rw [e]; exact foldl_low r f hr
    · unfold lmS; rw [e]; exact decide_eq_false (by simp)
end Go.Proofs.YtnpigefbdadjfaaDoor
