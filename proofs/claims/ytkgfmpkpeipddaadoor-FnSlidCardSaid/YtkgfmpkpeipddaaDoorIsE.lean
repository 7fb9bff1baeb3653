/- errors.Is of a package-level error and itself, and of nil and it. -/
import Derived.Test.YtkgfmpkpeipddaaDoorErv
import Derived.Test.YtkgfmpkpeipddaaDoorPl
import Derived.LaidEql
import Derived.Stop.Asserts
import Derived.RowKitTokens
namespace Go.Proofs.YtkgfmpkpeipddaaDoor
open Go Go.RowKit Go.Extern.Stop Go.Stop Go.Extern
set_option linter.unusedVariables false

theorem ise_typeOf (v : Value) (w : World) : (Extern.ReflectliteType.typeOf #[.iface 98 v]).run Tryd.prog w = .ok (.iface 86 (.agg #[.pointer (some ⟨3, 98, none⟩)])) w := by kernel_rfl
/-- What the method tells of a type. -/
def iseF : TypeId → Sem Value := fun t => do Go.Extern.Rtype.noPackHeld "Comparable" t; pure (.bool (← typeInfo t).comparable)
theorem ise_comparable (w : World) : (Extern.ReflectliteType.method iseF #[.agg #[.pointer (some ⟨3, 98, none⟩)]]).run Tryd.prog w = .ok (.bool true) w := by kernel_rfl
theorem ise_method (v : Value) (w : World) : (Go.method 233 86 v "Comparable").run Tryd.prog w = .ok (97, v) w := by kernel_rfl
theorem ise_comp : (Tryd.prog.info? 98).map (·.comparable) = some true := by kernel_rfl
theorem ise_size : (Tryd.prog.info? 122).map (·.size) = some 1 := by kernel_rfl
theorem is_nil (b : Addr) (w : World) :
    Calls Tryd.prog 69 #[.nilIface, .iface 98 (.pointer (some b))] w fun e w' => e = .returned (.bool false) ∧ w' = w := by
  have hn := run_eql_iface_nil_left (P := Tryd.prog) w 98 (.pointer (some b)) Tryd.underlying40
  go_enter Tryd.func69, Tryd.ntmps69
  go_wp2
  go_ret
  exact ⟨rfl, rfl⟩
set_option maxRecDepth 100000 in
set_option maxHeartbeats 1000000 in
theorem is_same (a : Addr) (w : World) :
    Calls Tryd.prog 69 #[.iface 98 (.pointer (some a)), .iface 98 (.pointer (some a))] w fun e w' => e = .returned (.bool true) ∧ w' = w := by
  obtain ⟨i, hi, hcmp⟩ := Option.map_eq_some_iff.1 ise_comp
  obtain ⟨j, hj, hjs⟩ := Option.map_eq_some_iff.1 ise_size
  have h8 := @run_callFunc_extern Tryd.prog 74 _ Extern.ReflectliteType.typeOf Tryd.func74 (by kernel_rfl) (by kernel_rfl) (by kernel_rfl) (by kernel_rfl)
  have h32 := @run_callFunc_extern Tryd.prog 97 _ (Extern.ReflectliteType.method iseF) Tryd.func97 (by kernel_rfl) (by kernel_rfl) (by kernel_rfl) (by kernel_rfl)
  have tT := ise_typeOf
  have cT := ise_comparable
  have heq := run_eql_iface_ptr_same (P := Tryd.prog) w a Tryd.underlying40 Tryd.underlying98 hi hcmp hj
  have mR := ise_method
  go_enter Tryd.func69, Tryd.ntmps69
  go_wp2
  refine wp_loop_rounds 1 ?_
  rw [rounds_succ]
  go_wp2
  go_ret
  exact ⟨rfl, rfl⟩
end Go.Proofs.YtkgfmpkpeipddaaDoor
