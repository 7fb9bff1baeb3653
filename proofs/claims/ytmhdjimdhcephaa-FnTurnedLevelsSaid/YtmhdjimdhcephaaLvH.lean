/- How many levels a bit has on a wire; whether there is room for levels. -/
import Derived.Test.YtmhdjimdhcephaaLvR
import Derived.Test.YtmhdjimdhcephaaLvC
import Derived.Deep.RegionHeld3
namespace Go.Proofs.Ytmhdjimdhcephaa
open Go Go.RowKit
set_option linter.unusedVariables false

/-- A wire of the kind κ in the block g. -/
def WrE (W : World) (g κ : Nat) (e : Int × Int) : Prop := Bk W g [.iface (kT κ) (.agg #[]), .int .i64 e.1, .int .i64 e.2]
set_option maxRecDepth 100000 in
set_option maxHeartbeats 1000000 in
theorem width_any {κ : Nat} (hκ : κ ≤ 5) (W : World) (g : Nat) (e : Int × Int) (h : WrE W g κ e) (t1 : tri e.1) (t2 : tri e.2) :
    Calls Try.prog 63 #[.pointer (some ⟨g, 0, none⟩)] W fun e w' => e = .returned (.int .i64 (wdK κ : Int)) ∧ Below W.heap.size W w' := by
  obtain ⟨a, m⟩ := e
  have HLK := Lib.hid (kL_look hκ)
  have HLE := Lib.hid (kL_enter hκ)
  have HCC := Lib.hid (fun W => kL_of hκ 48 a m W (.inl rfl) t1 t2)
  have c0 := h.c 0 _ rfl
  have c1 := h.c 1 _ rfl
  have c2 := h.c 2 _ rfl
  have HLN := Lib.hid (lsK_len κ ((48 : Int) == 49) a m)
  clear h t1 t2 hκ
  generalize lsK κ ((48 : Int) == 49) a m = ls at *
  generalize kT κ = T at *
  generalize kLF κ = F at *
  have hm := HLK.out
  have hen := HLE.out
  go_enter Try.func63, Try.ntmps63
  go_wp2_with fail
  go_region_with (refine (HCC.out _).mono ?_; rintro e w4 ⟨u, rfl, hu, hb4⟩; obtain ⟨A1, cc1, hv⟩ := own_shape hu; subst hv; have B4 := Lib.hid (((Below.refl W.heap.size W).drew).trans (hb4.mono ((Below.refl W.heap.size W).drew).size)); clear hu hb4)
  all_goals
    go_wp2_with fail
    go_ret
    exact ⟨ret_int (by rw [HLN.out]), B4.out⟩
set_option maxRecDepth 100000 in
set_option maxHeartbeats 1000000 in
theorem room_any {κ : Nat} (hκ : κ ≤ 5) (W : World) (g : Nat) (e : Int × Int) (h : WrE W g κ e) (t1 : tri e.1) (t2 : tri e.2) (v : Value) (l : List Int) (hr : Rd W v l) :
    Calls Try.prog 62 #[.pointer (some ⟨g, 0, none⟩), v] W fun e w' => e = .returned (.bool (lvB l && decide (l.length ≤ 400 * wdK κ))) ∧ Below W.heap.size W w' := by
  have HA := Lib.hid (areLevels_any W v l hr)
  have HW := Lib.hid (width_any hκ W g e h t1 t2)
  have hwd := wdK_bd κ
  have hlen := hr.len
  unfold maxLen at hlen
  obtain ⟨A, cp, rfl⟩ := rd_sh hr
  clear h t1 t2 hr hκ
  cases g0 : lvB l
  · rw [g0] at HA
    go_enter Try.func62, Try.ntmps62
    go_wp2_with fail
    refine HA.out.mono ?_; rintro e w' ⟨rfl, rfl⟩
    go_wp2_with fail
    go_ret
    exact ⟨rfl, Below.refl _ _⟩
  · rw [g0] at HA
    have w1 : IntKind.i64.wrap (400 * (wdK κ : Int)) = 400 * (wdK κ : Int) := IntWalk.i64_in _ (by omega)
    have HE : Hid (decide ((l.length : Int) ≤ 400 * (wdK κ : Int)) = (true && decide (l.length ≤ 400 * wdK κ))) := by
      show _ = _
      by_cases h : l.length ≤ 400 * wdK κ
      · rw [decide_eq_true h, decide_eq_true (by omega)]; rfl
      · rw [decide_eq_false h, decide_eq_false (by omega)]; rfl
    generalize wdK κ = T at *
    generalize l.length = n at *
    go_enter Try.func62, Try.ntmps62
    go_wp2_with fail
    refine HA.out.mono ?_; rintro e w' ⟨rfl, rfl⟩
    go_wp2_with fail
    refine HW.out.mono ?_; rintro e w1 ⟨rfl, hb1⟩
    have HB := Lib.hid hb1
    clear hb1
    go_wp2_with fail
    go_ret
    exact ⟨ret_bool HE.out, HB.out⟩
end Go.Proofs.Ytmhdjimdhcephaa
