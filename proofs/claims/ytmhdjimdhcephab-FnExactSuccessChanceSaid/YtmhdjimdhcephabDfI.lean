/- Both DifferentChance; powers. -/
import Derived.Test.YtmhdjimdhcephabPtJ
import Derived.Test.YtmhdjimdhcephabNdI
import Derived.Test.YtmhdjimdhcephabMake
import Derived.Test.YtmhdjimdhcephabApp
namespace Go.Proofs.Ytmhdjimdhcephab
open Go Go.RowKit
set_option linter.unusedVariables false

theorem l00MaxP_any (a b : Int) (w : World) :
    Calls Try.prog 120 #[.int .i64 a, .int .i64 b] w fun e w' => e = .returned (.int .i64 (max a b)) ∧ w = w' := by
  by_cases h : a > b
  · have HE : Hid (max a b = a) := by show _ = _; omega
    go_enter Try.func120, Try.ntmps120
    go_wp2_with fail
    go_ret
    exact ⟨ret_int HE.out.symm, rfl⟩
  · have HE : Hid (max a b = b) := by show _ = _; omega
    go_enter Try.func120, Try.ntmps120
    go_wp2_with fail
    go_ret
    exact ⟨ret_int HE.out.symm, rfl⟩
theorem cI_snoc (A : List Nat) (x : Nat) : cI (A ++ [x]) = cI A ++ [(x : Int)] := by simp [cI]
/-- Fractions of products that are small. -/
theorem mk_pt {P Q : Nat} (hQ : 0 < Q) (hP : P ≤ 1000000000000000000) (hQ2 : Q ≤ 1000000000000000000) : mkN (P : Int) (Q : Int) = ((P / Nat.gcd P Q : Nat) : Int) ∧ mkD (P : Int) (Q : Int) = ((Q / Nat.gcd P Q : Nat) : Int) := by
  unfold mkN mkD
  rw [if_neg (by omega)]
  simp only [Int.natAbs_natCast]
  exact ⟨rfl, rfl⟩
theorem pt_ok {A B : List Nat} (hP : prN A ≤ 1000000000000000000) (hQ : prN B ≤ 1000000000000000000) : ptK A B = true ∧ ptN A B = ((prN A / Nat.gcd (prN A) (prN B) : Nat) : Int) ∧ ptD A B = ((prN B / Nat.gcd (prN A) (prN B) : Nat) : Int) := by
  have h : ptK A B = true := decide_eq_true ⟨Nat.le_trans (Nat.div_le_self _ _) hP, Nat.le_trans (Nat.div_le_self _ _) hQ⟩
  exact ⟨h, by unfold ptN; rw [h]; rfl, by unfold ptD; rw [h]; rfl⟩
theorem prN_bd {c : Nat} : ∀ {l : List Nat}, (∀ x ∈ l, x ≤ c) → prN l ≤ c ^ l.length
  | [], _ => by simp [prN]
  | x :: t, h => by
    have ih := prN_bd (l := t) fun y hy => h y (List.mem_cons_of_mem _ hy)
    rw [prN, List.length_cons, Nat.pow_succ, Nat.mul_comm]
    exact Nat.mul_le_mul ih (h x List.mem_cons_self)
theorem pow_small {n w : Nat} (hn : n ≤ 12) (hw : w ≤ 20) : w ^ n ≤ 4096000000000000 := by
  have h1 : w ^ n ≤ 20 ^ n := Nat.pow_le_pow_left hw n
  have h2 : 20 ^ n ≤ 20 ^ 12 := Nat.pow_le_pow_right (by decide) hn
  have h3 : (20 : Nat) ^ 12 = 4096000000000000 := by decide
  omega
def dfO (n w : Nat) : List Nat := (List.range n).map (fun i => w - i)
theorem dfO_len (n w : Nat) : (dfO n w).length = n := by simp [dfO]
theorem dfO_succ (n w : Nat) : dfO (n + 1) w = dfO n w ++ [w - n] := by simp [dfO, List.range_succ]
theorem dfO_le (n w : Nat) : ∀ x ∈ dfO n w, x ≤ w := by
  intro x hx
  obtain ⟨i, -, rfl⟩ := List.mem_map.1 hx
  omega
theorem rep_succ (n w : Nat) : List.replicate (n + 1) w = List.replicate n w ++ [w] := by rw [List.replicate_succ']
def dfP (n w : Nat) : Nat := prN (dfO n w)
theorem dfP_bd {n w : Nat} (hn : n ≤ 12) (hw : w ≤ 20) : dfP n w ≤ 4096000000000000 := by
  have h := prN_bd (dfO_le n w)
  rw [dfO_len] at h
  exact Nat.le_trans h (pow_small hn hw)
theorem dfP_succ (n w : Nat) : ((dfP (n + 1) w : Nat) : Int) = (dfP n w : Int) * ((w : Int) - (n : Int)) := by
  unfold dfP
  rw [dfO_succ, prN_append]
  simp only [prN, Nat.mul_one]
  by_cases h : n ≤ w
  · rw [Int.natCast_mul]; congr 1; omega
  · have h0 : prN (dfO n w) = 0 := by
      have key : ∀ d, prN (dfO (w + 1 + d) w) = 0 := by
        intro d
        induction d with
        | zero => rw [Nat.add_zero, dfO_succ, prN_append]; simp [prN]
        | succ d ih => rw [show w + 1 + (d + 1) = (w + 1 + d) + 1 from rfl, dfO_succ, prN_append, ih, Nat.zero_mul]
      have := key (n - (w + 1))
      rwa [show w + 1 + (n - (w + 1)) = n by omega] at this
    rw [h0]; simp
def dcK (n w : Int) : Bool := rgB 1 12 n && rgB 1 20 w
def dcN (n w : Int) : Int := if dcK n w then ptN (dfO n.toNat w.toNat) (List.replicate n.toNat w.toNat) else 0
def dcD (n w : Int) : Int := if dcK n w then ptD (dfO n.toNat w.toNat) (List.replicate n.toNat w.toNat) else 0
theorem dc_no {n w : Int} (h : rgB 1 12 n = false ∨ rgB 1 20 w = false) : dcK n w = false ∧ dcN n w = 0 ∧ dcD n w = 0 := by
  have e : dcK n w = false := by unfold dcK; rcases h with h | h <;> rw [h] <;> simp
  exact ⟨e, by unfold dcN; rw [e]; rfl, by unfold dcD; rw [e]; rfl⟩
theorem dc_yes {n w : Nat} (h1 : rgB 1 12 (n : Int) = true) (h2 : rgB 1 20 (w : Int) = true) : dcK n w = true ∧ dcN n w = ptN (dfO n w) (List.replicate n w) ∧ dcD n w = ptD (dfO n w) (List.replicate n w) := by
  have e : dcK (n : Int) (w : Int) = true := by unfold dcK; rw [h1, h2]; rfl
  exact ⟨e, by unfold dcN; rw [e]; simp, by unfold dcD; rw [e]; simp⟩
set_option maxRecDepth 100000 in
theorem powerOf_any (a n : Nat) (ha : a ≤ 20) (hn : n ≤ 12) (w : World) :
    Calls Try.prog 91 #[.int .i64 (a : Int), .int .i64 (n : Int)] w fun e w' => e = .returned (.int .i64 ((a ^ n : Nat) : Int)) ∧ w = w' := by
  have HB := Lib.hid (fun k (h : k ≤ 12) => pow_small (n := k) (w := a) h ha)
  have HS : Hid (∀ k : Nat, ((a ^ k : Nat) : Int) * (a : Int) = ((a ^ (k + 1) : Nat) : Int)) := by
    show ∀ k : Nat, _
    intro k
    rw [Nat.pow_succ, Int.natCast_mul]
  go_enter Try.func91, Try.ntmps91
  go_wp2_with fail
  go_loop [5, 7] (fun p i => ∃ k : Nat, k ≤ n ∧ i = .int .i64 k ∧ p = .int .i64 ((a ^ k : Nat) : Int)) (fun _ i => n - (intOf i).toNat)
  case atStart => exact ⟨0, Nat.zero_le _, rfl, by simp⟩
  case round =>
    obtain ⟨k, hk, rfl, rfl⟩ := hrel
    by_cases hlt : k < n
    · have hk1 : (k : Int) < (n : Int) := by omega
      have h1 := HB.out (k + 1) (by omega)
      have e1 := HS.out k
      obtain ⟨Z, hZ⟩ : ∃ Z : Nat, Z = a ^ (k + 1) := ⟨_, rfl⟩
      rw [← hZ] at h1 e1
      have HZ := Lib.hid hZ
      clear hZ
      generalize a ^ k = Y at *
      have w1 : IntKind.i64.wrap ((Y : Int) * (a : Int)) = (Z : Int) := by rw [e1]; exact IntWalk.i64_in _ (by omega)
      clear e1
      go_wp2_with fail
      go_round
      case rel => exact ⟨k + 1, by omega, by go_num, by rw [← HZ.out]⟩
      case measure => simp [intOf]; omega
    · obtain rfl : k = n := by omega
      go_wp2_with fail
      go_ret
      exact ⟨rfl, rfl⟩

end Go.Proofs.Ytmhdjimdhcephab
