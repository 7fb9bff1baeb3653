/- Contracts of the model's and the program's ValidFraction. -/
import Derived.Test.YtijmfienaoeboaaBtw
import Derived.Test.YtijmfienaoeboaaGcd
namespace Go.Proofs.Ytijmfienaoeboaa
open Go Go.RowKit
set_option linter.unusedVariables false

theorem quiet_left {P : Program} {f : FuncId} {args : Array Value} {w : World} {n : Nat} {v : Value}
    (h : Calls P f args (w.drewN n) fun e w' => e = .returned v ∧ w.drewN n = w') : Calls P f args (w.drewN n) fun e w'' => e = .returned v ∧ ∃ m, w'' = w.drewN m :=
  h.mono fun _ _ ⟨he, hm⟩ => ⟨he, n, hm.symm⟩

/-- The fraction n / d as a value. -/
def fr (n d : Int) : Value := .agg #[.int .i64 n, .int .i64 d]

/-- Whether n / d is a valid fraction. -/
def fIs (n d : Int) : Bool := decide (1 ≤ d ∧ d ≤ 1000000000000000000 ∧ -1000000000000000000 ≤ n ∧ n ≤ 1000000000000000000 ∧ Nat.gcd n.natAbs d.natAbs = 1)

/-- A block of two cells. -/
def Box (W : World) (b : Nat) (x y : Value) : Prop := W.cell? ⟨b, 0, none⟩ = some x ∧ W.cell? ⟨b, 1, none⟩ = some y ∧ b < W.heap.size
theorem box_new (w : World) (x y : Value) (t : TypeId) : Box (w.alloc (.cells #[x, y] t)) w.heap.size x y :=
  ⟨by rw [World.cell?_alloc_at _ _ _ _ rfl]; rfl, by rw [World.cell?_alloc_at _ _ _ _ rfl]; rfl, by simp⟩
theorem box_below {W W' : World} {b B : Nat} {x y : Value} (h : Box W b x y) (hb : Below B W W') (hB : b < B) : Box W' b x y :=
  ⟨(hb.cell hB).trans h.1, (hb.cell hB).trans h.2.1, Nat.lt_of_lt_of_le h.2.2 hb.size⟩
theorem box_keep {W W' : World} {b : Nat} {x y : Value} (h : Box W b x y) (hb : Below W.heap.size W W') : Box W' b x y := box_below h hb h.2.2
theorem box_alloc {W : World} {b : Nat} {x y : Value} (h : Box W b x y) (o : Obj) : Box (W.alloc o) b x y := box_keep h ((Below.refl _ _).alloc (Nat.le_refl _) o)
theorem box_drewN {W : World} {b : Nat} {x y : Value} (h : Box W b x y) (n : Nat) : Box (W.drewN n) b x y := h

theorem l00Max_abs (n : Int) (w : World) :
    Calls Try.prog 124 #[.int .i64 n, .int .i64 (-n)] w fun e w' => e = .returned (.int .i64 n.natAbs) ∧ w = w' := by
  by_cases h : -n < n
  · have HE : Hid ((n.natAbs : Int) = n) := by show _ = _; omega
    go_enter Try.func124, Try.ntmps124
    go_wp2
    go_ret
    exact ⟨ret_int (by rw [HE.out]), rfl⟩
  · have HE : Hid ((n.natAbs : Int) = -n) := by show _ = _; omega
    go_enter Try.func124, Try.ntmps124
    go_wp2
    go_ret
    exact ⟨ret_int (by rw [HE.out]), rfl⟩

theorem isPart_yes (n : Int) (w : World) (h1 : -1000000000000000000 ≤ n) (h2 : n ≤ 1000000000000000000) :
    Calls Try.prog 125 #[.int .i64 n] w fun e w' => e = .returned (.bool true) ∧ w = w' := by
  go_enter Try.func125, Try.ntmps125
  go_wp2_with fail
  refine (btw_yes _ _ _ _ h1 h2).mono ?_; rintro e w' ⟨rfl, rfl⟩
  go_wp2_with fail
  go_ret
  exact ⟨rfl, rfl⟩
theorem isPart_no (n : Int) (w : World) (h : ¬ (-1000000000000000000 ≤ n ∧ n ≤ 1000000000000000000)) :
    Calls Try.prog 125 #[.int .i64 n] w fun e w' => e = .returned (.bool false) ∧ w = w' := by
  have H := Lib.hid h
  clear h
  go_enter Try.func125, Try.ntmps125
  go_wp2_with fail
  refine (btw_no _ _ _ _ H.out).mono ?_; rintro e w' ⟨rfl, rfl⟩
  go_wp2_with fail
  go_ret
  exact ⟨rfl, rfl⟩

theorem eqFraction_yes (n d : Int) (w : World) :
    Calls Try.prog 24 #[.agg #[.int .i64 n, .int .i64 d], .agg #[.int .i64 n, .int .i64 d]] w fun e w' => e = .returned (.bool true) ∧ Below w.heap.size w w' := by
  have h1 : (n != n) = false := by simp
  have h2 : (d != d) = false := by simp
  go_enter Try.func24, Try.ntmps24
  go_wp2
  go_ret
  exact ⟨rfl, (((Below.refl _ _).alloc (Nat.le_refl _) _).alloc (by simp) _)⟩

theorem i64_bounds {x : Int} (h : (Lit.int .i64 x).wf = true) : -9223372036854775808 ≤ x ∧ x ≤ 9223372036854775807 := by
  simp [Lit.wf, IntKind.min, IntKind.max, IntKind.signed, IntKind.bits] at h
  omega

end Go.Proofs.Ytijmfienaoeboaa
