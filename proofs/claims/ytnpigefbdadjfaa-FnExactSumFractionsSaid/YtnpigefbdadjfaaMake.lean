/- Contracts of l01FMake and of both MakeFraction, and the walk of their law. -/
import Derived.Test.YtnpigefbdadjfaaFrac
import Derived.RegionTactic
import Derived.BigRegion
namespace Go.Proofs.Ytnpigefbdadjfaa
open Go Go.RowKit
set_option linter.unusedVariables false

/-- The parts of n / d in lowest terms. -/
def mkN (n d : Int) : Int := Int.tdiv (if d < 0 then -n else n) (Nat.gcd n.natAbs d.natAbs : Nat)
def mkD (n d : Int) : Int := Int.tdiv (d.natAbs : Int) (Nat.gcd n.natAbs d.natAbs : Nat)

theorem l00Max_neg (n : Int) (w : World) :
    Calls Try.prog 101 #[.int .i64 (-n), .int .i64 n] w fun e w' => e = .returned (.int .i64 n.natAbs) ∧ w = w' := by
  by_cases h : n < -n
  · have HE : Hid ((n.natAbs : Int) = -n) := by show _ = _; omega
    go_enter Try.func101, Try.ntmps101
    go_wp2
    go_ret
    exact ⟨ret_int (by rw [HE.out]), rfl⟩
  · have HE : Hid ((n.natAbs : Int) = n) := by show _ = _; omega
    go_enter Try.func101, Try.ntmps101
    go_wp2
    go_ret
    exact ⟨ret_int (by rw [HE.out]), rfl⟩

theorem tdiv_bd (x : Int) (g : Nat) (hx1 : -1000000000000000000 ≤ x) (hx2 : x ≤ 1000000000000000000) : -1000000000000000000 ≤ Int.tdiv x (g : Int) ∧ Int.tdiv x (g : Int) ≤ 1000000000000000000 := by
  have h : (Int.tdiv x (g : Int)).natAbs ≤ x.natAbs := by rw [Int.natAbs_tdiv]; exact Nat.div_le_self _ _
  omega

theorem bnext {w W W' : World} (B : Below w.heap.size w W) (hb : Below W.heap.size W W') : Below w.heap.size w W' := B.trans (hb.mono B.size)
theorem balloc {w W : World} (B : Below w.heap.size w W) (o : Obj) : Below w.heap.size w (W.alloc o) := B.alloc B.size o
def InPart (n : Int) : Prop := -1000000000000000000 ≤ n ∧ n ≤ 1000000000000000000

end Go.Proofs.Ytnpigefbdadjfaa
