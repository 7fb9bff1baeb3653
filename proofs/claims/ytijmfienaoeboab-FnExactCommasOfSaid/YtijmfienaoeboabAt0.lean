/- The model's l01At (the like of Find's, without the program's search). -/
import Derived.Test.YtijmfienaoeboabBits
import Derived.WalkSmall
import Derived.Laws.IdiomStrings
import Derived.Lib.Index
namespace Go.Proofs.Ytijmfienaoeboab
open Go Go.RowKit
set_option linter.unusedVariables false

set_option maxRecDepth 100000 in
theorem l01AtX_any (s p : ByteArray) (k : Nat) (w : World) (hs : s.size ≤ 400) (hp : p.size ≤ 400) (hk : k ≤ 400) (hpn : p.data.toList ≠ []) :
    Calls Try.prog 136 #[.string s, .string p, .int .i64 k] w fun e w' => e = .returned (.bool (Lib.occAt s.data.toList p.data.toList k)) ∧ w = w' := by
  by_cases h : k + p.size ≤ s.size
  · have hq : ((s.extract k (k + p.size)).toList == p.toList) = Lib.occAt s.data.toList p.data.toList k := by
      rw [Lib.occAt_iff_take _ _ _ (by simpa using h), ByteArray.toList_eq, ByteArray.toList_eq, ByteArray.data_extract]
      simp [Array.toList_extract]
    generalize Lib.occAt s.data.toList p.data.toList k = b at hq ⊢
    have h1 : (k : Int) + (p.size : Int) ≤ (s.size : Int) := by omega
    have t2 : ((k : Int) + (p.size : Int)).toNat = k + p.size := by omega
    have t3 : (0 : Int) ≤ (k : Int) := by omega
    have t4 : (k : Int) ≤ (k : Int) + (p.size : Int) := by omega
    cases b
    all_goals
      go_enter Try.func136, Try.ntmps136
      go_wp2
      go_ret
      exact ⟨rfl, rfl⟩
  · have hq : Lib.occAt s.data.toList p.data.toList k = false := by
      cases hh : Lib.occAt s.data.toList p.data.toList k
      · rfl
      · rcases Lib.occAt_room hh with h' | h'
        · exact absurd (by simpa using h') h
        · exact absurd h' hpn
    have HQ := Lib.hid hq
    have h1 : ¬ (k : Int) + (p.size : Int) ≤ (s.size : Int) := by omega
    clear hq
    go_enter Try.func136, Try.ntmps136
    go_wp2
    go_ret
    exact ⟨ret_bool (by rw [HQ.out]), rfl⟩

end Go.Proofs.Ytijmfienaoeboab
