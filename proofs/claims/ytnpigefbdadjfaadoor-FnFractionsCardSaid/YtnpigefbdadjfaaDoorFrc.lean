/- Contracts of the model's and the program's ValidFraction. -/
import Derived.Test.YtnpigefbdadjfaaDoorBtw
import Derived.Test.YtnpigefbdadjfaaDoorGcd
namespace Go.Proofs.YtnpigefbdadjfaaDoor
open Go Go.RowKit
set_option linter.unusedVariables false

theorem quiet_left {P : Program} {f : FuncId} {args : Array Value} {w : World} {n : Nat} {v : Value}
    (h : Calls P f args (w.drewN n) fun e w' => e = .returned v ∧ w.drewN n = w') : Calls P f args (w.drewN n) fun e w'' => e = .returned v ∧ ∃ m, w'' = w.drewN m :=
  h.mono fun _ _ ⟨he, hm⟩ => ⟨he, n, hm.symm⟩

/-- The fraction n / d as a value. -/
def fr (n d : Int) : Value := .agg #[.int .i64 n, .int .i64 d]

/-- Whether n / d is a valid fraction. -/
def fIs (n d : Int) : Bool := decide (1 ≤ d ∧ d ≤ 1000000000000000000 ∧ -1000000000000000000 ≤ n ∧ n ≤ 1000000000000000000 ∧ Nat.gcd n.natAbs d.natAbs = 1)

/-- A block of two cells. -/
def Box (W : World) (b : Nat) (x y : Value) : Prop := W.cell? ⟨b, 0, none⟩ = some x ∧ W.cell? ⟨b, 1, none⟩ = some y ∧ b < W.heap.size
theorem box_new (w : World) (x y : Value) (t : TypeId) : Box (w.alloc (.cells #[x, y] t)) w.heap.size x y :=
  ⟨by rw [World.cell?_alloc_at _ _ _ _ rfl]; rfl, by rw [World.cell?_alloc_at _ _ _ _ rfl]; rfl, by simp⟩
theorem box_below {W W' : World} {b B : Nat} {x y : Value} (h : Box W b x y) (hb : Below B W W') (hB : b < B) : Box W' b x y :=
  ⟨(hb.cell hB).trans h.1, (hb.cell hB).trans h.2.1, Nat.lt_of_lt_of_le h.2.2 hb.size⟩
theorem box_keep {W W' : World} {b : Nat} {x y : Value} (h : Box W b x y) (hb : Below W.heap.size W W') : Box W' b x y := box_below h hb h.2.2
theorem box_alloc {W : World} {b : Nat} {x y : Value} (h : Box W b x y) (o : Obj) : Box (W.alloc o) b x y := box_keep h ((Below.refl _ _).alloc (Nat.le_refl _) o)
theorem box_drewN {W : World} {b : Nat} {x y : Value} (h : Box W b x y) (n : Nat) : Box (W.drewN n) b x y := h

theorem l00Max_abs (n : Int) (w : World) :
    Calls Tryd.prog 112 #[.int .i64 n, .int .i64 (-n)] w fun e w' => e = .returned (.int .i64 n.natAbs) ∧ w = w' := by
  by_cases h : -n < n
  · have HE : Hid ((n.natAbs : Int) = n) := by show _ = _; omega
    go_enter Tryd.func112, Tryd.ntmps112
    go_wp2
    go_ret
    exact ⟨ret_int (by rw [HE.out]), rfl⟩
  · have HE : Hid ((n.natAbs : Int) = -n) := by show _ = _; omega
    go_enter Tryd.func112, Tryd.ntmps112
    go_wp2
    go_ret
    exact ⟨ret_int (by rw [HE.out]), rfl⟩

theorem isPart_yes (n : Int) (w : World) (h1 : -1000000000000000000 ≤ n) (h2 : n ≤ 1000000000000000000) :
    Calls Tryd.prog 82 #[.int .i64 n] w fun e w' => e = .returned (.bool true) ∧ w = w' := by
  go_enter Tryd.func82, Tryd.ntmps82
  go_wp2_with fail
  refine (btw_yes _ _ _ _ h1 h2).mono ?_; rintro e w' ⟨rfl, rfl⟩
  go_wp2_with fail
  go_ret
  exact ⟨rfl, rfl⟩
theorem isPart_no (n : Int) (w : World) (h : ¬ (-1000000000000000000 ≤ n ∧ n ≤ 1000000000000000000)) :
    Calls Tryd.prog 82 #[.int .i64 n] w fun e w' => e = .returned (.bool false) ∧ w = w' := by
  have H := Lib.hid h
  clear h
  go_enter Tryd.func82, Tryd.ntmps82
  go_wp2_with fail
  refine (btw_no _ _ _ _ H.out).mono ?_; rintro e w' ⟨rfl, rfl⟩
  go_wp2_with fail
  go_ret
  exact ⟨rfl, rfl⟩

set_option maxRecDepth 100000 in
theorem validFraction_impl (n d : Int) (w : World) (wn1 : -9223372036854775808 ≤ n) (wn2 : n ≤ 9223372036854775807) :
    Calls Tryd.prog 29 #[.agg #[.int .i64 n, .int .i64 d]] w fun e w' => e = .returned (.bool (fIs n d)) ∧ Below w.heap.size w w' := by
  by_cases h1 : 1 ≤ d ∧ d ≤ 1000000000000000000
  · by_cases h2 : -1000000000000000000 ≤ n ∧ n ≤ 1000000000000000000
    · obtain ⟨d1, d2⟩ := h1
      obtain ⟨n1, n2⟩ := h2
      have hw : IntKind.u64.wrap d = d := by simp only [IntKind.wrap_u64]; omega
      have HT : Hid ((n.natAbs : Int).toNat = n.natAbs) := by show _ = _; omega
      have HD : Hid (d.toNat = d.natAbs) := by show _ = _; omega
      have na1 : (0 : Int) ≤ (n.natAbs : Int) := by omega
      have na2 : (n.natAbs : Int) ≤ 9000000000000000000 := by omega
      have hg : ∃ g : Nat, Nat.gcd n.natAbs d.natAbs = g := ⟨_, rfl⟩
      obtain ⟨g, hg⟩ := hg
      have HG : Hid (Nat.gcd (n.natAbs : Int).toNat d.toNat = g) := by show _ = _; rw [HT.out, HD.out, hg]
      have HF : Hid (fIs n d = ((g : Int) == 1)) := by
        show _ = _
        unfold fIs
        rw [Bool.eq_iff_iff, decide_eq_true_iff, beq_iff_eq, hg]
        omega
      have HGC : Hid (∀ W : World, Calls Tryd.prog 72 #[.int .u64 (n.natAbs : Int), .int .u64 d] W fun e w' => e = .returned (.int .u64 (g : Int)) ∧ ∃ m, w' = W.drewN m) := by
        show ∀ W : World, _
        intro W
        have h := commonDivisor_any (n.natAbs : Int) d W na1 (by omega) (by omega) (by omega)
        rw [HG.out] at h
        exact h
      have HW1 := Lib.hid wn1
      have HW2 := Lib.hid wn2
      clear hg HT HD wn1 wn2
      cases hg1 : ((g : Int) == 1)
      all_goals
        go_enter Tryd.func29, Tryd.ntmps29
        go_wp2_with fail
        go_quiet ((first
          | (go_at_call 68; exact quiet_left (btw_yes _ _ _ _ d1 d2))
          | (go_at_call 82; exact quiet_left (isPart_yes _ _ n1 n2))
          | (go_at_call 83; exact quiet_left (magnitude_any _ _ HW1.out HW2.out))
          | (go_at_call 72; exact Calls.quiet_of (HGC.out _))))
        go_wp2_with fail
        go_ret
        exact ⟨ret_bool (by rw [HF.out, hg1]), below_drewN ((Below.refl _ _).alloc (Nat.le_refl _) _) _⟩
    · obtain ⟨d1, d2⟩ := h1
      have HF : Hid (fIs n d = false) := decide_eq_false (fun e => h2 ⟨e.2.2.1, e.2.2.2.1⟩)
      have H2 := Lib.hid h2
      clear h2 wn1 wn2
      go_enter Tryd.func29, Tryd.ntmps29
      go_wp2_with fail
      go_quiet ((first
        | (go_at_call 68; exact quiet_left (btw_yes _ _ _ _ d1 d2))
        | (go_at_call 82; exact quiet_left (isPart_no _ _ H2.out))))
      go_wp2_with fail
      go_ret
      exact ⟨ret_bool (by rw [HF.out]), below_drewN ((Below.refl _ _).alloc (Nat.le_refl _) _) _⟩
  · have HF : Hid (fIs n d = false) := decide_eq_false (fun e => h1 ⟨e.1, e.2.1⟩)
    have H1 := Lib.hid h1
    clear h1 wn1 wn2
    go_enter Tryd.func29, Tryd.ntmps29
    go_wp2_with fail
    go_quiet ((go_at_call 68; exact quiet_left (btw_no _ _ _ _ H1.out)))
    go_wp2_with fail
    go_ret
    exact ⟨ret_bool (by rw [HF.out]), below_drewN ((Below.refl _ _).alloc (Nat.le_refl _) _) _⟩

theorem i64_bounds {x : Int} (h : (Lit.int .i64 x).wf = true) : -9223372036854775808 ≤ x ∧ x ≤ 9223372036854775807 := by
  simp [Lit.wf, IntKind.min, IntKind.max, IntKind.signed, IntKind.bits] at h
  omega
end Go.Proofs.YtnpigefbdadjfaaDoor
