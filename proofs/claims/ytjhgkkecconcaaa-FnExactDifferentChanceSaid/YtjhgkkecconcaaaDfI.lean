/- Both DifferentChance; powers. -/
import Derived.Test.YtjhgkkecconcaaaPtJ
import Derived.Test.YtjhgkkecconcaaaNdI
import Derived.Test.YtjhgkkecconcaaaMake
import Derived.Test.YtjhgkkecconcaaaApp
namespace Go.Proofs.Ytjhgkkecconcaaa
open Go Go.RowKit
set_option linter.unusedVariables false

theorem l00MaxP_any (a b : Int) (w : World) :
    Calls Try.prog 72 #[.int .i64 a, .int .i64 b] w fun e w' => e = .returned (.int .i64 (max a b)) ∧ w = w' := by
  by_cases h : a > b
  · have HE : Hid (max a b = a) := by show _ = _; omega
    go_enter Try.func72, Try.ntmps72
    go_wp2_with fail
    go_ret
    exact ⟨ret_int HE.out.symm, rfl⟩
  · have HE : Hid (max a b = b) := by show _ = _; omega
    go_enter Try.func72, Try.ntmps72
    go_wp2_with fail
    go_ret
    exact ⟨ret_int HE.out.symm, rfl⟩
theorem cI_snoc (A : List Nat) (x : Nat) : cI (A ++ [x]) = cI A ++ [(x : Int)] := by simp [cI]
/-- Fractions of products that are small. -/
theorem mk_pt {P Q : Nat} (hQ : 0 < Q) (hP : P ≤ 1000000000000000000) (hQ2 : Q ≤ 1000000000000000000) : mkN (P : Int) (Q : Int) = ((P / Nat.gcd P Q : Nat) : Int) ∧ mkD (P : Int) (Q : Int) = ((Q / Nat.gcd P Q : Nat) : Int) := by
  unfold mkN mkD
  rw [if_neg (by omega)]
  simp only [Int.natAbs_natCast]
  exact ⟨rfl, rfl⟩
theorem pt_ok {A B : List Nat} (hP : prN A ≤ 1000000000000000000) (hQ : prN B ≤ 1000000000000000000) : ptK A B = true ∧ ptN A B = ((prN A / Nat.gcd (prN A) (prN B) : Nat) : Int) ∧ ptD A B = ((prN B / Nat.gcd (prN A) (prN B) : Nat) : Int) := by
  have h : ptK A B = true := decide_eq_true ⟨Nat.le_trans (Nat.div_le_self _ _) hP, Nat.le_trans (Nat.div_le_self _ _) hQ⟩
  exact ⟨h, by unfold ptN; rw [h]; rfl, by unfold ptD; rw [h]; rfl⟩
theorem prN_bd {c : Nat} : ∀ {l : List Nat}, (∀ x ∈ l, x ≤ c) → prN l ≤ c ^ l.length
  | [], _ => by simp [prN]
  | x :: t, h => by
    have ih := prN_bd (l := t) fun y hy => h y (List.mem_cons_of_mem _ hy)
    rw [prN, List.length_cons, Nat.pow_succ, Nat.mul_comm]
    exact Nat.mul_le_mul ih (h x List.mem_cons_self)
theorem pow_small {n w : Nat} (hn : n ≤ 12) (hw : w ≤ 20) : w ^ n ≤ 4096000000000000 := by
  have h1 : w ^ n ≤ 20 ^ n := Nat.pow_le_pow_left hw n
  have h2 : 20 ^ n ≤ 20 ^ 12 := Nat.pow_le_pow_right (by decide) hn
  have h3 : (20 : Nat) ^ 12 = 4096000000000000 := by decide
  omega
def dfO (n w : Nat) : List Nat := (List.range n).map (fun i => w - i)
theorem dfO_len (n w : Nat) : (dfO n w).length = n := by simp [dfO]
theorem dfO_succ (n w : Nat) : dfO (n + 1) w = dfO n w ++ [w - n] := by simp [dfO, List.range_succ]
theorem dfO_le (n w : Nat) : ∀ x ∈ dfO n w, x ≤ w := by
  intro x hx
  obtain ⟨i, -, rfl⟩ := List.mem_map.1 hx
  omega
theorem rep_succ (n w : Nat) : List.replicate (n + 1) w = List.replicate n w ++ [w] := by rw [List.replicate_succ']
def dfP (n w : Nat) : Nat := prN (dfO n w)
theorem dfP_bd {n w : Nat} (hn : n ≤ 12) (hw : w ≤ 20) : dfP n w ≤ 4096000000000000 := by
  have h := prN_bd (dfO_le n w)
  rw [dfO_len] at h
  exact Nat.le_trans h (pow_small hn hw)
theorem dfP_succ (n w : Nat) : ((dfP (n + 1) w : Nat) : Int) = (dfP n w : Int) * ((w : Int) - (n : Int)) := by
  unfold dfP
  rw [dfO_succ, prN_append]
  simp only [prN, Nat.mul_one]
  by_cases h : n ≤ w
  · rw [Int.natCast_mul]; congr 1; omega
  · have h0 : prN (dfO n w) = 0 := by
      have key : ∀ d, prN (dfO (w + 1 + d) w) = 0 := by
        intro d
        induction d with
        | zero => rw [Nat.add_zero, dfO_succ, prN_append]; simp [prN]
        | succ d ih => rw [show w + 1 + (d + 1) = (w + 1 + d) + 1 from rfl, dfO_succ, prN_append, ih, Nat.zero_mul]
      have := key (n - (w + 1))
      rwa [show w + 1 + (n - (w + 1)) = n by omega] at this
    rw [h0]; simp
def dcK (n w : Int) : Bool := rgB 1 12 n && rgB 1 20 w
def dcN (n w : Int) : Int := if dcK n w then ptN (dfO n.toNat w.toNat) (List.replicate n.toNat w.toNat) else 0
def dcD (n w : Int) : Int := if dcK n w then ptD (dfO n.toNat w.toNat) (List.replicate n.toNat w.toNat) else 0
theorem dc_no {n w : Int} (h : rgB 1 12 n = false ∨ rgB 1 20 w = false) : dcK n w = false ∧ dcN n w = 0 ∧ dcD n w = 0 := by
  have e : dcK n w = false := by unfold dcK; rcases h with h | h <;> rw [h] <;> simp
  exact ⟨e, by unfold dcN; rw [e]; rfl, by unfold dcD; rw [e]; rfl⟩
theorem dc_yes {n w : Nat} (h1 : rgB 1 12 (n : Int) = true) (h2 : rgB 1 20 (w : Int) = true) : dcK n w = true ∧ dcN n w = ptN (dfO n w) (List.replicate n w) ∧ dcD n w = ptD (dfO n w) (List.replicate n w) := by
  have e : dcK (n : Int) (w : Int) = true := by unfold dcK; rw [h1, h2]; rfl
  exact ⟨e, by unfold dcN; rw [e]; simp, by unfold dcD; rw [e]; simp⟩
set_option maxRecDepth 100000 in
theorem powerOf_any (a n : Nat) (ha : a ≤ 20) (hn : n ≤ 12) (w : World) :
    Calls Try.prog 74 #[.int .i64 (a : Int), .int .i64 (n : Int)] w fun e w' => e = .returned (.int .i64 ((a ^ n : Nat) : Int)) ∧ w = w' := by
  have HB := Lib.hid (fun k (h : k ≤ 12) => pow_small (n := k) (w := a) h ha)
  have HS : Hid (∀ k : Nat, ((a ^ k : Nat) : Int) * (a : Int) = ((a ^ (k + 1) : Nat) : Int)) := by
    show ∀ k : Nat, _
    intro k
    rw [Nat.pow_succ, Int.natCast_mul]
  go_enter Try.func74, Try.ntmps74
  go_wp2_with fail
  go_loop [5, 7] (fun p i => ∃ k : Nat, k ≤ n ∧ i = .int .i64 k ∧ p = .int .i64 ((a ^ k : Nat) : Int)) (fun _ i => n - (intOf i).toNat)
  case atStart => exact ⟨0, Nat.zero_le _, rfl, by simp⟩
  case round =>
    obtain ⟨k, hk, rfl, rfl⟩ := hrel
    by_cases hlt : k < n
    · have hk1 : (k : Int) < (n : Int) := by omega
      have h1 := HB.out (k + 1) (by omega)
      have e1 := HS.out k
      obtain ⟨Z, hZ⟩ : ∃ Z : Nat, Z = a ^ (k + 1) := ⟨_, rfl⟩
      rw [← hZ] at h1 e1
      have HZ := Lib.hid hZ
      clear hZ
      generalize a ^ k = Y at *
      have w1 : IntKind.i64.wrap ((Y : Int) * (a : Int)) = (Z : Int) := by rw [e1]; exact IntWalk.i64_in _ (by omega)
      clear e1
      go_wp2_with fail
      go_round
      case rel => exact ⟨k + 1, by omega, by go_num, by rw [← HZ.out]⟩
      case measure => simp [intOf]; omega
    · obtain rfl : k = n := by omega
      go_wp2_with fail
      go_ret
      exact ⟨rfl, rfl⟩

set_option maxRecDepth 100000 in
set_option maxHeartbeats 1000000 in
theorem different_impl (n w : Int) (W : World) :
    Calls Try.prog 33 #[.int .i64 n, .int .i64 w] W fun e w' => e = .returned (.tuple #[.agg #[.int .i64 (dcN n w), .int .i64 (dcD n w)], .bool (dcK n w)]) ∧ Below W.heap.size W w' := by
  obtain ⟨W0, hW0⟩ : ∃ W0, W0 = W.alloc (.cells #[.int .i64 0, .int .i64 0] 24) := ⟨_, rfl⟩
  have K0 : Hid (Below W.heap.size W W0) := by show Below _ _ _; rw [hW0]; exact (Below.refl _ _).alloc (Nat.le_refl _) _
  have X0 : Hid (Bk W0 W.heap.size [.int .i64 0, .int .i64 0]) := by show Bk _ _ _; rw [hW0]; exact Bk.new W [.int .i64 0, .int .i64 0] _ _ rfl
  have HW0 := Lib.hid hW0
  clear hW0
  have HC1 := Lib.hid (fun W => areStations_any n W)
  have HC2 := Lib.hid (fun W => isWindow_any w W)
  cases g0 : rgB 1 12 n
  · obtain ⟨e1, e2, e3⟩ := dc_no (n := n) (w := w) (.inl g0); rw [e1, e2, e3]; clear e1 e2 e3
    rw [g0] at HC1
    clear g0 HC2
    obtain ⟨r0, r1⟩ := bk_twoP X0.out
    have f0 := X0.out.f 0 (by decide)
    have f1 := X0.out.f 1 (by decide)
    go_enter Try.func33, Try.ntmps33
    go_wp2_with fail
    rw [← HW0.out]
    refine (HC1.out _).mono ?_; rintro e w' ⟨rfl, rfl⟩
    go_wp2_with fail
    simp [bodyPost, results, Try.results33, go_sem, r0, r1]
    first | exact (K0.out.setCell (p := ⟨W.heap.size, 0, none⟩) (Nat.le_refl _) _).setCell (p := ⟨W.heap.size, 1, none⟩) (Nat.le_refl _) _ | exact K0.out
  cases g1 : rgB 1 20 w
  · obtain ⟨e1, e2, e3⟩ := dc_no (n := n) (w := w) (.inr g1); rw [e1, e2, e3]; clear e1 e2 e3
    rw [g0] at HC1
    rw [g1] at HC2
    clear g0 g1
    obtain ⟨r0, r1⟩ := bk_twoP X0.out
    have f0 := X0.out.f 0 (by decide)
    have f1 := X0.out.f 1 (by decide)
    go_enter Try.func33, Try.ntmps33
    go_wp2_with fail
    rw [← HW0.out]
    refine (HC1.out _).mono ?_; rintro e w' ⟨rfl, rfl⟩
    go_wp2_with fail
    refine (HC2.out _).mono ?_; rintro e w' ⟨rfl, rfl⟩
    go_wp2_with fail
    simp [bodyPost, results, Try.results33, go_sem, r0, r1]
    first | exact (K0.out.setCell (p := ⟨W.heap.size, 0, none⟩) (Nat.le_refl _) _).setCell (p := ⟨W.heap.size, 1, none⟩) (Nat.le_refl _) _ | exact K0.out
  have hn : 1 ≤ n ∧ n ≤ 12 := of_decide_eq_true g0
  have hw : 1 ≤ w ∧ w ≤ 20 := of_decide_eq_true g1
  obtain ⟨N, rfl⟩ := Int.eq_ofNat_of_zero_le (show 0 ≤ n by omega)
  obtain ⟨V, rfl⟩ := Int.eq_ofNat_of_zero_le (show 0 ≤ w by omega)
  obtain ⟨e1, e2, e3⟩ := dc_yes g0 g1
  rw [e1, e2, e3]
  rw [g0] at HC1
  rw [g1] at HC2
  clear e1 e2 e3 g0 g1
  have hN : N ≤ 12 := by omega
  have hV : V ≤ 20 := by omega
  have HPB := Lib.hid (fun k (h : k ≤ 12) => dfP_bd (n := k) (w := V) h hV)
  have HPS := Lib.hid (fun k => dfP_succ k V)
  have hQ0 : 0 < V ^ N := Nat.pow_pos (by omega)
  have hQ1 := pow_small hN hV
  obtain ⟨k1, k2, k3⟩ := pt_ok (A := dfO N V) (B := List.replicate N V) (by have := dfP_bd hN hV; unfold dfP at this; omega) (by rw [prN_rep]; omega)
  rw [k2, k3, prN_rep]
  obtain ⟨m1, m2⟩ := mk_pt (P := dfP N V) (Q := V ^ N) hQ0 (by have := dfP_bd hN hV; omega) (by omega)
  have HMK : Hid (∀ W, Calls Try.prog 70 #[.int .i64 ((dfP N V : Nat) : Int), .int .i64 ((V ^ N : Nat) : Int)] W fun e w' => e = .returned (.tuple #[.agg #[.int .i64 ((dfP N V / Nat.gcd (dfP N V) (V ^ N) : Nat) : Int), .int .i64 ((V ^ N / Nat.gcd (dfP N V) (V ^ N) : Nat) : Int)], .bool true]) ∧ Below W.heap.size W w') := by
    show ∀ W, _
    intro W
    have h5 := dfP_bd hN hV
    have := make_yes_impl ((dfP N V : Nat) : Int) ((V ^ N : Nat) : Int) W (by omega) (by omega) (by omega) (by omega) (by omega)
    rwa [m1, m2] at this
  have HPW := Lib.hid (fun W => powerOf_any V N hV hN W)
  have eP : prN (dfO N V) = dfP N V := rfl
  rw [eP]
  clear k1 k2 k3 m1 m2 eP hQ0 hQ1
  generalize ((dfP N V / Nat.gcd (dfP N V) (V ^ N) : Nat) : Int) = RN at *
  generalize ((V ^ N / Nat.gcd (dfP N V) (V ^ N) : Nat) : Int) = RD at *
  generalize V ^ N = Q at *
  go_enter Try.func33, Try.ntmps33
  go_wp2_with fail
  rw [← HW0.out]
  refine (HC1.out _).mono ?_; rintro e w' ⟨rfl, rfl⟩
  go_wp2_with fail
  refine (HC2.out _).mono ?_; rintro e w' ⟨rfl, rfl⟩
  go_wp2_with fail
  go_loop [6, 18] (fun p i => ∃ k : Nat, k ≤ N ∧ i = .int .i64 k ∧ p = .int .i64 ((dfP k V : Nat) : Int)) (fun _ i => N - (intOf i).toNat)
  case atStart => exact ⟨0, Nat.zero_le _, rfl, rfl⟩
  case round =>
    obtain ⟨k, hk, rfl, rfl⟩ := hrel
    by_cases hlt : k < N
    · have hk1 : (k : Int) < (N : Int) := by omega
      have h1 := HPB.out (k + 1) (by omega)
      have e1 := HPS.out k
      have HZ : Hid (∃ Z : Nat, dfP (k + 1) V = Z) := ⟨_, rfl⟩
      obtain ⟨Z, hZ⟩ := HZ.out
      rw [hZ] at h1 e1
      have HZ2 := Lib.hid hZ
      clear hZ HZ
      generalize dfP k V = Y at *
      have w0 : IntKind.i64.wrap ((V : Int) - (k : Int)) = (V : Int) - (k : Int) := IntWalk.i64_in _ (by omega)
      have w1 : IntKind.i64.wrap ((Y : Int) * ((V : Int) - (k : Int))) = (Z : Int) := by rw [← e1]; exact IntWalk.i64_in _ (by omega)
      clear e1
      go_wp2_with fail
      go_round
      case rel => exact ⟨k + 1, by omega, by go_num, by rw [HZ2.out]⟩
      case measure => simp [intOf]; omega
    · obtain rfl : k = N := by omega
      clear HPB HPS
      generalize dfP k V = Y at *
      go_wp2_with fail
      refine (HPW.out _).mono ?_; rintro e w' ⟨rfl, rfl⟩
      go_wp2_with fail
      refine (HMK.out _).mono ?_; rintro e w2 ⟨rfl, hb2⟩
      have K2 := Lib.hid (K0.out.trans (hb2.mono K0.out.size))
      have X2 := Lib.hid (X0.out.keep hb2)
      clear hb2
      obtain ⟨r0, r1⟩ := bk_twoP X2.out
      have f0 := X2.out.f 0 (by decide)
      have f1 := X2.out.f 1 (by decide)
      go_wp2_with fail
      simp [bodyPost, results, Try.results33, go_sem, r0, r1]
      first | exact (K2.out.setCell (p := ⟨W.heap.size, 0, none⟩) (Nat.le_refl _) _).setCell (p := ⟨W.heap.size, 1, none⟩) (Nat.le_refl _) _ | exact K2.out
end Go.Proofs.Ytjhgkkecconcaaa
