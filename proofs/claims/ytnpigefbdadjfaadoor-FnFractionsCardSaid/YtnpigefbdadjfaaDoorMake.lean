/- Contracts of l01FMake and of both MakeFraction, and the walk of their law. -/
import Derived.Test.YtnpigefbdadjfaaDoorFrac
import Derived.RegionTactic
import Derived.BigRegion
namespace Go.Proofs.YtnpigefbdadjfaaDoor
open Go Go.RowKit
set_option linter.unusedVariables false

/-- The parts of n / d in lowest terms. -/
def mkN (n d : Int) : Int := Int.tdiv (if d < 0 then -n else n) (Nat.gcd n.natAbs d.natAbs : Nat)
def mkD (n d : Int) : Int := Int.tdiv (d.natAbs : Int) (Nat.gcd n.natAbs d.natAbs : Nat)

theorem l00Max_neg (n : Int) (w : World) :
    Calls Tryd.prog 112 #[.int .i64 (-n), .int .i64 n] w fun e w' => e = .returned (.int .i64 n.natAbs) ∧ w = w' := by
  by_cases h : n < -n
  · have HE : Hid ((n.natAbs : Int) = -n) := by show _ = _; omega
    go_enter Tryd.func112, Tryd.ntmps112
    go_wp2
    go_ret
    exact ⟨ret_int (by rw [HE.out]), rfl⟩
  · have HE : Hid ((n.natAbs : Int) = n) := by show _ = _; omega
    go_enter Tryd.func112, Tryd.ntmps112
    go_wp2
    go_ret
    exact ⟨ret_int (by rw [HE.out]), rfl⟩

theorem tdiv_bd (x : Int) (g : Nat) (hx1 : -1000000000000000000 ≤ x) (hx2 : x ≤ 1000000000000000000) : -1000000000000000000 ≤ Int.tdiv x (g : Int) ∧ Int.tdiv x (g : Int) ≤ 1000000000000000000 := by
  have h : (Int.tdiv x (g : Int)).natAbs ≤ x.natAbs := by rw [Int.natAbs_tdiv]; exact Nat.div_le_self _ _
  omega

set_option maxRecDepth 100000 in
theorem l01FMake_any (n d : Int) (w : World) (h0 : d ≠ 0) (n1 : -1000000000000000000 ≤ n) (n2 : n ≤ 1000000000000000000) (d1 : -1000000000000000000 ≤ d) (d2 : d ≤ 1000000000000000000) :
    Calls Tryd.prog 71 #[.int .i64 n, .int .i64 d] w fun e w' => e = .returned (.agg #[.int .i64 (mkN n d), .int .i64 (mkD n d)]) ∧ Below w.heap.size w w' := by
  obtain ⟨g, hg⟩ : ∃ g : Nat, Nat.gcd n.natAbs d.natAbs = g := ⟨_, rfl⟩
  have hgp : 0 < g := by rw [← hg]; exact Nat.gcd_pos_of_pos_right _ (by omega)
  have hgl : g ≤ 1000000000000000000 := by
    rw [← hg]
    exact Nat.le_trans (Nat.gcd_le_right _ (by omega)) (by omega)
  have na1 : (0 : Int) ≤ (n.natAbs : Int) := by omega
  have na2 : (n.natAbs : Int) ≤ 9000000000000000000 := by omega
  by_cases hneg : d < 0
  · have HG : Hid (∀ W : World, Calls Tryd.prog 121 #[.int .i64 (n.natAbs : Int), .int .i64 (-d)] W fun e w' => e = .returned (.int .i64 (g : Int)) ∧ W = w') := by
      show ∀ W : World, _
      intro W
      have h := l01Gcd_any (n.natAbs : Int) (-d) W na1 (by omega) na2 (by omega)
      rw [show (n.natAbs : Int).toNat = n.natAbs from by omega, show (-d).toNat = d.natAbs from by omega, hg] at h
      exact h
    have e1 : mkN n d = Int.tdiv (-n) (g : Int) := by unfold mkN; rw [if_pos hneg, hg]
    have e2 : mkD n d = Int.tdiv (-d) (g : Int) := by unfold mkD; rw [hg, show (d.natAbs : Int) = -d from by omega]
    obtain ⟨t1, t2⟩ := tdiv_bd (-n) g (by omega) (by omega)
    obtain ⟨t3, t4⟩ := tdiv_bd (-d) g (by omega) (by omega)
    rw [e1, e2]
    clear e1 e2 hg h0
    generalize hx : Int.tdiv (-n) (g : Int) = x at *
    generalize hy : Int.tdiv (-d) (g : Int) = y at *
    have w1 : IntKind.i64.wrap x = x := IntWalk.i64_in _ (by omega)
    have w2 : IntKind.i64.wrap y = y := IntWalk.i64_in _ (by omega)
    have hgz : ((g : Int) == 0) = false := beq_f (by omega)
    have hgi : (0 : Int) < (g : Int) := by omega
    go_enter Tryd.func71, Tryd.ntmps71
    go_wp2_with fail
    refine (l00Max_neg _ _).mono ?_; rintro e w' ⟨rfl, rfl⟩
    go_wp2_with fail
    refine (HG.out _).mono ?_; rintro e w' ⟨rfl, rfl⟩
    go_wp2_with fail
    go_region
    go_wp2_with fail
    simp [bodyPost, results, Tryd.results71, go_sem]
    exact ((Below.refl _ _).alloc (Nat.le_refl _) _).drew
  · have HG : Hid (∀ W : World, Calls Tryd.prog 121 #[.int .i64 (n.natAbs : Int), .int .i64 (d)] W fun e w' => e = .returned (.int .i64 (g : Int)) ∧ W = w') := by
      show ∀ W : World, _
      intro W
      have h := l01Gcd_any (n.natAbs : Int) (d) W na1 (by omega) na2 (by omega)
      rw [show (n.natAbs : Int).toNat = n.natAbs from by omega, show (d).toNat = d.natAbs from by omega, hg] at h
      exact h
    have e1 : mkN n d = Int.tdiv (n) (g : Int) := by unfold mkN; rw [if_neg hneg, hg]
    have e2 : mkD n d = Int.tdiv (d) (g : Int) := by unfold mkD; rw [hg, show (d.natAbs : Int) = d from by omega]
    obtain ⟨t1, t2⟩ := tdiv_bd (n) g (by omega) (by omega)
    obtain ⟨t3, t4⟩ := tdiv_bd (d) g (by omega) (by omega)
    rw [e1, e2]
    clear e1 e2 hg h0
    generalize hx : Int.tdiv (n) (g : Int) = x at *
    generalize hy : Int.tdiv (d) (g : Int) = y at *
    have w1 : IntKind.i64.wrap x = x := IntWalk.i64_in _ (by omega)
    have w2 : IntKind.i64.wrap y = y := IntWalk.i64_in _ (by omega)
    have hgz : ((g : Int) == 0) = false := beq_f (by omega)
    have hgi : (0 : Int) < (g : Int) := by omega
    go_enter Tryd.func71, Tryd.ntmps71
    go_wp2_with fail
    refine (l00Max_abs _ _).mono ?_; rintro e w' ⟨rfl, rfl⟩
    go_wp2_with fail
    refine (HG.out _).mono ?_; rintro e w' ⟨rfl, rfl⟩
    go_wp2_with fail
    go_region
    go_wp2_with fail
    simp [bodyPost, results, Tryd.results71, go_sem]
    exact ((Below.refl _ _).alloc (Nat.le_refl _) _).drew

set_option maxRecDepth 100000 in
theorem make_yes_impl (n d : Int) (w : World) (h0 : d ≠ 0) (n1 : -1000000000000000000 ≤ n) (n2 : n ≤ 1000000000000000000) (d1 : -1000000000000000000 ≤ d) (d2 : d ≤ 1000000000000000000) :
    Calls Tryd.prog 33 #[.int .i64 n, .int .i64 d] w fun e w' => e = .returned (.tuple #[.agg #[.int .i64 (mkN n d), .int .i64 (mkD n d)], .bool true]) ∧ Below w.heap.size w w' := by
  have hd0 : (d == 0) = false := beq_f h0
  obtain ⟨g, hg⟩ : ∃ g : Nat, Nat.gcd n.natAbs d.natAbs = g := ⟨_, rfl⟩
  have hgp : 0 < g := by rw [← hg]; exact Nat.gcd_pos_of_pos_right _ (by omega)
  have hgl : g ≤ 1000000000000000000 := by
    rw [← hg]
    exact Nat.le_trans (Nat.gcd_le_right _ (by omega)) (by omega)
  have na1 : (0 : Int) ≤ (n.natAbs : Int) := by omega
  have na2 : (n.natAbs : Int) ≤ 9000000000000000000 := by omega
  by_cases hneg : d < 0
  · have HG : Hid (∀ W : World, Calls Tryd.prog 72 #[.int .u64 (n.natAbs : Int), .int .u64 (-d)] W fun e w' => e = .returned (.int .u64 (g : Int)) ∧ ∃ q, w' = W.drewN q) := by
      show ∀ W : World, _
      intro W
      have h := commonDivisor_any (n.natAbs : Int) (-d) W na1 (by omega) (by omega) (by omega)
      rw [show (n.natAbs : Int).toNat = n.natAbs from by omega, show (-d).toNat = d.natAbs from by omega, hg] at h
      exact h
    have e1 : mkN n d = Int.tdiv (-n) (g : Int) := by unfold mkN; rw [if_pos hneg, hg]
    have e2 : mkD n d = Int.tdiv (-d) (g : Int) := by unfold mkD; rw [hg, show (d.natAbs : Int) = -d from by omega]
    obtain ⟨t1, t2⟩ := tdiv_bd (-n) g (by omega) (by omega)
    obtain ⟨t3, t4⟩ := tdiv_bd (-d) g (by omega) (by omega)
    rw [e1, e2]
    clear e1 e2 hg h0
    generalize hx : Int.tdiv (-n) (g : Int) = x at *
    generalize hy : Int.tdiv (-d) (g : Int) = y at *
    have w1 : IntKind.i64.wrap x = x := IntWalk.i64_in _ (by omega)
    have w2 : IntKind.i64.wrap y = y := IntWalk.i64_in _ (by omega)
    have w3 : IntKind.u64.wrap (-d) = -d := by simp only [IntKind.wrap_u64]; omega
    have w4 : IntKind.i64.wrap (g : Int) = (g : Int) := IntWalk.i64_in _ (by omega)
    have hgz : ((g : Int) == 0) = false := beq_f (by omega)
    have hgi : (0 : Int) < (g : Int) := by omega
    go_enter Tryd.func33, Tryd.ntmps33
    go_wp2_with fail
    refine (isPart_yes _ _ n1 n2).mono ?_; rintro e w' ⟨rfl, rfl⟩
    go_wp2_with fail
    refine (isPart_yes _ _ d1 d2).mono ?_; rintro e w' ⟨rfl, rfl⟩
    go_wp2_with fail
    refine (magnitude_any _ _ (by omega) (by omega)).mono ?_; rintro e w' ⟨rfl, rfl⟩
    rw [show ((-n).natAbs : Int) = (n.natAbs : Int) from by omega]
    go_wp2_with fail
    refine (HG.out _).mono ?_; rintro e w' ⟨rfl, q, rfl⟩
    go_wp2_with fail
    go_region
    go_wp2_with fail
    simp [bodyPost, results, Tryd.results33, go_sem]
    exact ((below_drewN ((Below.refl _ _).alloc (Nat.le_refl _) _) _).setCell (Nat.le_refl _) _).setCell (Nat.le_refl _) _
  · have HG : Hid (∀ W : World, Calls Tryd.prog 72 #[.int .u64 (n.natAbs : Int), .int .u64 (d)] W fun e w' => e = .returned (.int .u64 (g : Int)) ∧ ∃ q, w' = W.drewN q) := by
      show ∀ W : World, _
      intro W
      have h := commonDivisor_any (n.natAbs : Int) (d) W na1 (by omega) (by omega) (by omega)
      rw [show (n.natAbs : Int).toNat = n.natAbs from by omega, show (d).toNat = d.natAbs from by omega, hg] at h
      exact h
    have e1 : mkN n d = Int.tdiv (n) (g : Int) := by unfold mkN; rw [if_neg hneg, hg]
    have e2 : mkD n d = Int.tdiv (d) (g : Int) := by unfold mkD; rw [hg, show (d.natAbs : Int) = d from by omega]
    obtain ⟨t1, t2⟩ := tdiv_bd (n) g (by omega) (by omega)
    obtain ⟨t3, t4⟩ := tdiv_bd (d) g (by omega) (by omega)
    rw [e1, e2]
    clear e1 e2 hg h0
    generalize hx : Int.tdiv (n) (g : Int) = x at *
    generalize hy : Int.tdiv (d) (g : Int) = y at *
    have w1 : IntKind.i64.wrap x = x := IntWalk.i64_in _ (by omega)
    have w2 : IntKind.i64.wrap y = y := IntWalk.i64_in _ (by omega)
    have w3 : IntKind.u64.wrap (d) = d := by simp only [IntKind.wrap_u64]; omega
    have w4 : IntKind.i64.wrap (g : Int) = (g : Int) := IntWalk.i64_in _ (by omega)
    have hgz : ((g : Int) == 0) = false := beq_f (by omega)
    have hgi : (0 : Int) < (g : Int) := by omega
    go_enter Tryd.func33, Tryd.ntmps33
    go_wp2_with fail
    refine (isPart_yes _ _ n1 n2).mono ?_; rintro e w' ⟨rfl, rfl⟩
    go_wp2_with fail
    refine (isPart_yes _ _ d1 d2).mono ?_; rintro e w' ⟨rfl, rfl⟩
    go_wp2_with fail
    refine (magnitude_any _ _ (by omega) (by omega)).mono ?_; rintro e w' ⟨rfl, rfl⟩
    go_wp2_with fail
    refine (HG.out _).mono ?_; rintro e w' ⟨rfl, q, rfl⟩
    go_wp2_with fail
    go_region
    go_wp2_with fail
    simp [bodyPost, results, Tryd.results33, go_sem]
    exact ((below_drewN ((Below.refl _ _).alloc (Nat.le_refl _) _) _).setCell (Nat.le_refl _) _).setCell (Nat.le_refl _) _

theorem bnext {w W W' : World} (B : Below w.heap.size w W) (hb : Below W.heap.size W W') : Below w.heap.size w W' := B.trans (hb.mono B.size)
theorem balloc {w W : World} (B : Below w.heap.size w W) (o : Obj) : Below w.heap.size w (W.alloc o) := B.alloc B.size o
def InPart (n : Int) : Prop := -1000000000000000000 ≤ n ∧ n ≤ 1000000000000000000

theorem make_no_impl (n d : Int) (w : World) (h : ¬ (d ≠ 0 ∧ (-1000000000000000000 ≤ n ∧ n ≤ 1000000000000000000) ∧ -1000000000000000000 ≤ d ∧ d ≤ 1000000000000000000)) :
    Calls Tryd.prog 33 #[.int .i64 n, .int .i64 d] w fun e w' => e = .returned (.tuple #[.agg #[.int .i64 0, .int .i64 0], .bool false]) ∧ Below w.heap.size w w' := by
  by_cases h0 : d = 0
  · have hd0 : (d == 0) = true := beq_t h0
    clear h h0
    go_enter Tryd.func33, Tryd.ntmps33
    go_wp2_with fail
    simp [bodyPost, results, Tryd.results33, go_sem]
    exact (Below.refl _ _).alloc (Nat.le_refl _) _
  · have hd0 : (d == 0) = false := beq_f h0
    by_cases hn : -1000000000000000000 ≤ n ∧ n ≤ 1000000000000000000
    · have HD := Lib.hid (show ¬ (-1000000000000000000 ≤ d ∧ d ≤ 1000000000000000000) from fun e => h ⟨h0, hn, e⟩)
      obtain ⟨n1, n2⟩ := hn
      clear h h0
      go_enter Tryd.func33, Tryd.ntmps33
      go_wp2_with fail
      refine (isPart_yes _ _ n1 n2).mono ?_; rintro e w' ⟨rfl, rfl⟩
      go_wp2_with fail
      refine (isPart_no _ _ HD.out).mono ?_; rintro e w' ⟨rfl, rfl⟩
      go_wp2_with fail
      simp [bodyPost, results, Tryd.results33, go_sem]
      exact (Below.refl _ _).alloc (Nat.le_refl _) _
    · have HN := Lib.hid hn
      clear h h0 hn
      go_enter Tryd.func33, Tryd.ntmps33
      go_wp2_with fail
      refine (isPart_no _ _ HN.out).mono ?_; rintro e w' ⟨rfl, rfl⟩
      go_wp2_with fail
      simp [bodyPost, results, Tryd.results33, go_sem]
      exact (Below.refl _ _).alloc (Nat.le_refl _) _

end Go.Proofs.YtnpigefbdadjfaaDoor
