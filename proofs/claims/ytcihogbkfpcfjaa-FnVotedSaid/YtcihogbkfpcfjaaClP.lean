/- Plain facts on clocks and buffers, without the program. -/
import Derived.Test.YtcihogbkfpcfjaaPl
namespace Go.Proofs.Ytcihogbkfpcfjaa
set_option linter.unusedVariables false
open Go Go.RowKit

/-- Both are numbers of ticks. -/
def tkB (a : Int) : Bool := decide (2 ≤ a ∧ a ≤ 1000)
def tkOk (a b : Int) : Bool := tkB a && tkB b
def shr (a b n : Int) : Int := 2 * (n * a) - (2 * (n * b) - b) - 1
def lgr (a b n : Int) : Int := 2 * (n * b) + b - 2 * (n * a)
def spr (a b n : Int) : Int := min (shr a b n) (lgr a b n)
/-- Just n samples are taken of a run of n bits, each in its bit. -/
def fineP (a b n : Int) : Prop := (∀ k, 0 ≤ k → k < n → 2 * (k * a) < 2 * (k * b) + b ∧ 2 * (k * b) + b < 2 * (k * a) + 2 * a) ∧ 2 * (n * a) ≤ 2 * (n * b) + b

theorem mul_mono_up {m n d : Int} (h : m ≤ n) (hd : 0 ≤ d) : m * d ≤ n * d := Int.mul_le_mul_of_nonneg_right h hd
theorem mul_mono_dn {m n d : Int} (h : m ≤ n) (hd : d ≤ 0) : n * d ≤ m * d := by
  have := Int.mul_le_mul_of_nonneg_right h (show 0 ≤ -d by omega)
  rw [Int.mul_neg, Int.mul_neg] at this
  omega
theorem spr_anti {a b m n : Int} (hb : 0 < b) (h1 : 1 ≤ m) (h2 : m ≤ n) : spr a b n ≤ shr a b m ∧ spr a b n ≤ lgr a b m := by
  have e1 : ∀ k : Int, k * a - k * b = k * (a - b) := fun k => (Int.mul_sub k a b).symm
  have em := e1 m
  have en := e1 n
  have l1 := spr a b n
  unfold spr shr lgr
  rcases Int.lt_trichotomy a b with h | h | h
  · have u1 := mul_mono_dn (d := a - b) h2 (by omega)
    have u2 := mul_mono_dn (d := a - b) h1 (by omega)
    rw [Int.one_mul] at u2
    omega
  · subst h
    omega
  · have u1 := mul_mono_up (d := a - b) h2 (by omega)
    have u2 := mul_mono_up (d := a - b) h1 (by omega)
    rw [Int.one_mul] at u2
    omega
theorem fine_of_spr {a b n : Int} (hb : 0 < b) (h1 : 1 ≤ n) (h : 0 ≤ spr a b n) : fineP a b n := by
  refine ⟨fun k h0 hk => ?_, ?_⟩
  · have e1 : ∀ k : Int, k * a - k * b = k * (a - b) := fun k => (Int.mul_sub k a b).symm
    have ek := e1 k
    have en := e1 n
    have hs := (spr_anti (a := a) hb (show 1 ≤ k + 1 by omega) (show k + 1 ≤ n by omega)).1
    unfold shr at hs
    rw [Int.add_mul, Int.add_mul, Int.one_mul, Int.one_mul] at hs
    refine ⟨?_, by omega⟩
    have hl : 0 ≤ lgr a b n := by unfold spr at h; omega
    unfold lgr at hl
    by_cases hab : a ≤ b
    · have := mul_mono_dn (d := a - b) h0 (by omega)
      rw [Int.zero_mul] at this
      omega
    · have := mul_mono_up (d := a - b) (show k + 1 ≤ n by omega) (by omega)
      rw [Int.add_mul, Int.one_mul] at this
      omega
  · have hl : 0 ≤ lgr a b n := by unfold spr at h; omega
    unfold lgr at hl
    omega
theorem spr_of_fine {a b n : Int} (h1 : 1 ≤ n) (h : fineP a b n) : 0 ≤ spr a b n := by
  obtain ⟨hk, hn⟩ := h
  have := (hk (n - 1) (by omega) (by omega)).2
  rw [Int.sub_mul, Int.sub_mul, Int.one_mul, Int.one_mul] at this
  unfold spr shr lgr
  omega
theorem spr_mono {a b m n : Int} (hb : 0 < b) (h1 : 1 ≤ m) (h2 : m ≤ n) : spr a b n ≤ spr a b m := by
  have := spr_anti (a := a) hb h1 h2
  show _ ≤ min _ _
  omega
theorem all_fine {a b n : Int} (hb : 0 < b) (h1 : 1 ≤ n) : (∀ m, 1 ≤ m → m ≤ n → fineP a b m) ↔ 0 ≤ spr a b n :=
  ⟨fun h => spr_of_fine h1 (h n h1 (Int.le_refl _)), fun h m hm hmn => fine_of_spr hb hm (Int.le_trans h (spr_mono hb hm hmn))⟩
theorem fine_iff {a b n : Int} (hb : 0 < b) (h1 : 1 ≤ n) : fineP a b n ↔ 0 ≤ spr a b n := ⟨spr_of_fine h1, fine_of_spr hb h1⟩
/-- Runs are received with a jitter. -/
def jitP (a b n j : Int) : Prop := 2 * (n * b) - b < 2 * (n * a) - 4 * j ∧ 2 * (n * a) + 4 * j ≤ 2 * (n * b) + b
theorem jit_iff {a b n j : Int} : jitP a b n j ↔ 4 * j ≤ spr a b n := by
  unfold jitP spr shr lgr; omega
theorem jit_all {a b n j : Int} (hb : 0 < b) (h1 : 1 ≤ n) : (∀ m, 1 ≤ m → m ≤ n → jitP a b m j) ↔ 4 * j ≤ spr a b n :=
  ⟨fun h => jit_iff.1 (h n h1 (Int.le_refl _)), fun h m hm hmn => jit_iff.2 (Int.le_trans h (spr_mono hb hm hmn))⟩

def runB (n : Int) : Bool := decide (1 ≤ n ∧ n ≤ 100)
/-- All runs up to one are tolerated. -/
def tolB (a b n : Int) : Bool := decide (0 ≤ spr a b n)
def tolV (a b n : Int) : Bool := tkOk a b && (runB n && tolB a b n)
def jitV (a b n : Int) : Int := if tolV a b n then spr a b n / 4 else 0
/-- As far as a test holds. -/
def cntU (p : Int → Bool) : Nat → Int → Int
  | 0, n => n
  | k + 1, n => if p (n + 1) then cntU p k (n + 1) else n
theorem cntU_yes {p : Int → Bool} {k : Nat} {n : Int} (h : p (n + 1) = true) : cntU p (k + 1) n = cntU p k (n + 1) := by simp [cntU, h]
theorem cntU_no {p : Int → Bool} {k : Nat} {n : Int} (h : p (n + 1) = false) : cntU p k n = n := by cases k <;> simp [cntU, h]
def ltV (a b : Int) : Int := if tkOk a b then cntU (tolB a b) 100 0 else 0
theorem cntU_ge (p : Int → Bool) : ∀ (k : Nat) (n : Int), n ≤ cntU p k n ∧ cntU p k n ≤ n + k
  | 0, n => by simp [cntU]
  | k + 1, n => by
    have := cntU_ge p k (n + 1)
    unfold cntU
    split
    · omega
    · omega
/-- The times between samples that are tolerated, up to one. -/
def tks (a n : Int) (k : Nat) : List Int := ((List.range k).map fun i : Nat => (i : Int) + 2).filter fun b => tolV a b n
theorem tks_yes {a n : Int} {k : Nat} (h : tolV a ((k : Int) + 2) n = true) : tks a n (k + 1) = tks a n k ++ [(k : Int) + 2] := by
  simp [tks, List.range_succ, List.filter_append, h]
theorem tks_no {a n : Int} {k : Nat} (h : tolV a ((k : Int) + 2) n = false) : tks a n (k + 1) = tks a n k := by
  simp [tks, List.range_succ, List.filter_append, h]
theorem tks_len (a n : Int) (k : Nat) : (tks a n k).length ≤ k := by
  unfold tks; refine Nat.le_trans (List.length_filter_le ..) ?_; simp
theorem tks_mem {a n : Int} {k : Nat} : ∀ x ∈ tks a n k, 2 ≤ x ∧ x < (k : Int) + 2 := by
  intro x hx
  simp [tks] at hx
  obtain ⟨⟨i, hi, rfl⟩, -⟩ := hx
  omega
def tkL (a n : Int) : List Int := tks a n 999
def tkLo (l : List Int) : Int := l.headD 0
def tkHi (l : List Int) : Int := l.getLastD 0
theorem tkLo_snoc (l : List Int) (x : Int) : tkLo (l ++ [x]) = if l = [] then x else tkLo l := by
  cases l <;> simp [tkLo]
theorem tkHi_snoc (l : List Int) (x : Int) : tkHi (l ++ [x]) = x := by simp [tkHi]

def smL (b : Int) (n : Nat) : List Int := (List.range n).map fun k : Nat => (2 * (k : Int) + 1) * b
theorem smL_succ (b : Int) (n : Nat) : smL b (n + 1) = smL b n ++ [(2 * (n : Int) + 1) * b] := by simp [smL, List.range_succ]
theorem smL_len (b : Int) (n : Nat) : (smL b n).length = n := by simp [smL]
def cntB (n : Int) : Bool := decide (0 ≤ n ∧ n ≤ 100)
def smOk (a b n : Int) : Bool := tkOk a b && cntB n
def smV (a b n : Int) : List Int := if smOk a b n then smL b n.toNat else []
theorem smV_len (a b n : Int) : (smV a b n).length ≤ 100 := by
  unfold smV
  split
  · rename_i h
    rw [smL_len]
    simp [smOk, cntB] at h
    omega
  · simp

/-! Buffers. -/
def mb (t p : Int) : Int := (t / p + 1) * p
def nxT (w r t : Int) : Int := min (mb t w) (mb t r)
def fil (w r f t : Int) : Int := f + t / w - t / r
theorem mb_gt {t p : Int} (hp : 0 < p) : t < mb t p := by
  have h1 := Int.mul_ediv_add_emod t p
  have h2 := Int.emod_lt_of_pos t hp
  unfold mb
  rw [Int.add_mul, Int.one_mul, Int.mul_comm (t / p) p]
  omega
theorem mb_le {t p : Int} (hp : 0 < p) : mb t p ≤ t + p := by
  have h1 := Int.mul_ediv_add_emod t p
  have h2 := Int.emod_nonneg t (Int.ne_of_gt hp)
  unfold mb
  rw [Int.add_mul, Int.one_mul, Int.mul_comm (t / p) p]
  omega
theorem nxT_gt {w r t : Int} (hw : 0 < w) (hr : 0 < r) : t < nxT w r t := by
  have := mb_gt (t := t) hw
  have := mb_gt (t := t) hr
  unfold nxT; omega
/-- The next multiple, behind a time that is up to it. -/
theorem mb_keep {t u p : Int} (hp : 0 < p) (h1 : t ≤ u) (h2 : u < mb t p) : mb u p = mb t p := by
  have e : u / p = t / p := by
    have a := Int.ediv_le_ediv hp h1
    have b : u / p < t / p + 1 := Int.ediv_lt_of_lt_mul hp (by unfold mb at h2; exact h2)
    omega
  unfold mb; rw [e]
theorem mb_at {t p : Int} (hp : 0 < p) : mb (mb t p) p = mb t p + p := by
  have e : mb t p / p = t / p + 1 := by unfold mb; exact Int.mul_ediv_cancel _ (Int.ne_of_gt hp)
  conv => lhs; unfold mb
  rw [show (t / p + 1) * p = mb t p from rfl, e, Int.add_mul, Int.one_mul]; rfl
def bft (w r d f : Int) : Nat → Int → Option Int
  | 0, _ => none
  | n + 1, t => if 1000000 < nxT w r t then none else if 0 ≤ fil w r f (nxT w r t) ∧ fil w r f (nxT w r t) ≤ d then bft w r d f n (nxT w r t) else some (nxT w r t)
theorem bt_fuel {w r d f : Int} (hw : 0 < w) (hr : 0 < r) : ∀ (n m : Nat) (t : Int), 1000001 - t ≤ n → 1000001 - t ≤ m → bft w r d f n t = bft w r d f m t
  | 0, 0, t, _, _ => rfl
  | 0, m + 1, t, h, _ => by
    have := nxT_gt (t := t) hw hr
    show none = ite _ _ _
    rw [if_pos (by omega)]
  | n + 1, 0, t, _, h => by
    have := nxT_gt (t := t) hw hr
    show ite _ _ _ = none
    rw [if_pos (by omega)]
  | n + 1, m + 1, t, h, h' => by
    have hg := nxT_gt (t := t) hw hr
    unfold bft
    split
    · rfl
    · split
      · exact bt_fuel hw hr n m _ (by omega) (by omega)
      · rfl
def btT (w r d f t : Int) : Option Int := bft w r d f (1000001 - t).toNat t
theorem btT_late {w r d f t : Int} (h : 1000000 < nxT w r t) : btT w r d f t = none := by
  unfold btT
  cases (1000001 - t).toNat with
  | zero => rfl
  | succ n => show ite _ _ _ = none; rw [if_pos h]
theorem btT_on {w r d f t : Int} (hw : 0 < w) (hr : 0 < r) (h : nxT w r t ≤ 1000000) (h2 : 0 ≤ fil w r f (nxT w r t) ∧ fil w r f (nxT w r t) ≤ d) : btT w r d f t = btT w r d f (nxT w r t) := by
  have hg := nxT_gt (t := t) hw hr
  unfold btT
  obtain ⟨n, hn⟩ : ∃ n, (1000001 - t).toNat = n + 1 := ⟨(1000001 - t).toNat - 1, by omega⟩
  rw [hn]
  show ite _ _ _ = _
  rw [if_neg (by omega), if_pos h2]
  exact bt_fuel hw hr _ _ _ (by omega) (by omega)
theorem btT_out {w r d f t : Int} (hw : 0 < w) (hr : 0 < r) (h : nxT w r t ≤ 1000000) (h2 : ¬ (0 ≤ fil w r f (nxT w r t) ∧ fil w r f (nxT w r t) ≤ d)) : btT w r d f t = some (nxT w r t) := by
  have hg := nxT_gt (t := t) hw hr
  unfold btT
  obtain ⟨n, hn⟩ : ∃ n, (1000001 - t).toNat = n + 1 := ⟨(1000001 - t).toNat - 1, by omega⟩
  rw [hn]
  show ite _ _ _ = _
  rw [if_neg (by omega), if_neg h2]
theorem bt_bd {w r d f : Int} (hw : 0 < w) (hr : 0 < r) : ∀ (n : Nat) (t x : Int), bft w r d f n t = some x → t < x ∧ x ≤ 1000000
  | 0, t, x, h => by cases h
  | n + 1, t, x, h => by
    have hg := nxT_gt (t := t) hw hr
    unfold bft at h
    split at h
    · cases h
    · split at h
      · have := bt_bd hw hr n _ _ h
        omega
      · injection h with h; omega
theorem bt_eq {w d f : Int} (h0 : 0 ≤ f) (hd : f ≤ d) : ∀ (n : Nat) (t : Int), bft w w d f n t = none
  | 0, t => rfl
  | n + 1, t => by
    unfold bft
    split
    · rfl
    · rw [if_pos (by unfold fil; omega)]
      exact bt_eq h0 hd n _
def dpB (d : Int) : Bool := decide (1 ≤ d ∧ d ≤ 64)
def flB (d f : Int) : Bool := decide (0 ≤ f ∧ f ≤ d)
def btO (w r d f : Int) : Option Int := if tkOk w r && (dpB d && flB d f) then btT w r d f 0 else none
def btV (w r d f : Int) : Int := (btO w r d f).getD 0
def btS (w r d f : Int) : Bool := (btO w r d f).isSome
def faS (w r f t : Int) : Bool := tkOk w r && (decide (0 ≤ f ∧ f ≤ 64) && decide (0 ≤ t ∧ t ≤ 1000000))
def faV (w r f t : Int) : Int := if faS w r f t then fil w r f t else 0
/-- The best of the first fills, and its time. -/
def bsK (w r d : Int) : Nat → Option (Int × Int)
  | 0 => some (0, -1)
  | k + 1 => match bsK w r d k, btT w r d k 0 with
    | some (b, l), some t => some (if l < t then ((k : Int), t) else (b, l))
    | _, _ => none
def bsO (w r d : Int) : Option (Int × Int) := if tkOk w r && dpB d then bsK w r d (d.toNat + 1) else none
theorem bsK_none {w r d : Int} {k : Nat} (h : bsK w r d k = none) : ∀ i, bsK w r d (k + i) = none
  | 0 => h
  | i + 1 => by
    show (match bsK w r d (k + i), btT w r d (k + i : Nat) 0 with | some (b, l), some t => some (if l < t then (((k + i : Nat) : Int), t) else (b, l)) | _, _ => none) = none
    rw [bsK_none h i]
theorem bsK_yes {w r d b l t : Int} {k : Nat} (h : bsK w r d k = some (b, l)) (h2 : btT w r d k 0 = some t) : bsK w r d (k + 1) = some (if l < t then ((k : Int), t) else (b, l)) := by
  show (match bsK w r d k, btT w r d k 0 with | some (b, l), some t => some (if l < t then ((k : Int), t) else (b, l)) | _, _ => none) = _
  rw [h, h2]
theorem bsK_no {w r d : Int} {k : Nat} (h2 : btT w r d k 0 = none) : bsK w r d (k + 1) = none := by
  show (match bsK w r d k, btT w r d k 0 with | some (b, l), some t => some (if l < t then ((k : Int), t) else (b, l)) | _, _ => none) = _
  rw [h2]
  cases bsK w r d k <;> rfl
end Go.Proofs.Ytcihogbkfpcfjaa
