/- The model's question whether all of a list are fractions. -/
import Derived.Test.YtnpigefbdadjfaaFrac
namespace Go.Proofs.Ytnpigefbdadjfaa
open Go Go.RowKit
set_option linter.unusedVariables false

/-- A list of fractions. -/
def RdF (w : World) (v : Value) (l : List (Int × Int)) : Prop :=
  ∃ (A : Option Addr) (n c : Nat), v = .slice A n c ∧ l.length = n ∧
    (0 < n → ∃ b o, A = some ⟨b, o, none⟩ ∧ b < w.heap.size ∧ ∀ i (h : i < l.length), w.cell? ⟨b, o + i * 2, none⟩ = some (.int .i64 l[i].1) ∧ w.cell? ⟨b, o + i * 2 + 1, none⟩ = some (.int .i64 l[i].2))
theorem RdF.keep {w w' : World} {v : Value} {l : List (Int × Int)} (h : RdF w v l) (hb : Below w.heap.size w w') : RdF w' v l := by
  obtain ⟨A, n, c, e, hn, h3⟩ := h
  refine ⟨A, n, c, e, hn, fun h0 => ?_⟩
  obtain ⟨b, o, e1, hlt, hc⟩ := h3 h0
  exact ⟨b, o, e1, Nat.lt_of_lt_of_le hlt hb.size, fun i h => ⟨(hb.cell (p := ⟨b, o + i * 2, none⟩) hlt).trans (hc i h).1, (hb.cell (p := ⟨b, o + i * 2 + 1, none⟩) hlt).trans (hc i h).2⟩⟩
def faB (l : List (Int × Int)) : Bool := l.all fun x => fIs x.1 x.2
theorem faB_no {l : List (Int × Int)} {k : Nat} (h : k < l.length) (hf : fIs l[k].1 l[k].2 = false) : faB l = false := by
  unfold faB
  rw [List.all_eq_false]
  exact ⟨l[k], List.getElem_mem h, by rw [hf]; decide⟩
theorem faB_yes {l : List (Int × Int)} (h : ∀ k (hk : k < l.length), fIs l[k].1 l[k].2 = true) : faB l = true := by
  unfold faB
  rw [List.all_eq_true]
  intro x hx
  obtain ⟨k, hk, rfl⟩ := List.getElem_of_mem hx
  exact h k hk
set_option maxRecDepth 100000 in
set_option maxHeartbeats 1000000 in
theorem l01FAll_any (w : World) (v : Value) (l : List (Int × Int)) (h : RdF w v l) (hl : l.length ≤ 1000) :
    Calls Try.prog 63 #[v] w fun e w' => e = .returned (.bool (faB l)) ∧ Below w.heap.size w w' := by
  obtain ⟨A, n, c, rfl, hn, r⟩ := h
  rw [hn] at hl
  have HR := Lib.hid r
  have HN := Lib.hid hn
  clear r hn
  go_enter Try.func63, Try.ntmps63
  go_wp2_with fail
  go_loopw [3] (fun i wr => ∃ k : Nat, k ≤ n ∧ i = .int .i64 k ∧ Below w.heap.size w wr ∧ ∀ j (hj : j < l.length), j < k → fIs l[j].1 l[j].2 = true) (fun i _ => n - (intOf i).toNat)
  case atStart => exact ⟨0, Nat.zero_le _, rfl, Below.refl _ _, fun j hj h => absurd h (Nat.not_lt_zero _)⟩
  case round =>
    obtain ⟨k, hk, rfl, hb, hall⟩ := hrel
    have HA := Lib.hid hall
    clear hall
    by_cases hlt : k < n
    · obtain ⟨b, o, rfl, hb0, hc⟩ := HR.out (by omega)
      have hkl : k < l.length := by have := HN.out; omega
      obtain ⟨d0, d1⟩ := hc k hkl
      have d0 := (hb.cell (p := ⟨b, o + k * 2, none⟩) hb0).trans d0
      have d1 := (hb.cell (p := ⟨b, o + k * 2 + 1, none⟩) hb0).trans d1
      have HF : Hid (fIs l[k].1 l[k].2 = false → faB l = false) := fun h => faB_no hkl h
      have HT : Hid (fIs l[k].1 l[k].2 = true → ∀ j (hj : j < l.length), j < k + 1 → fIs l[j].1 l[j].2 = true) := by
        show _ → _
        intro h j hj hjk
        rcases Nat.lt_or_ge j k with h1 | h1
        · exact HA.out j hj h1
        · obtain rfl : j = k := by omega
          exact h
      clear hc
      generalize l[k].1 = x at *
      generalize l[k].2 = y at *
      have i1 : (0 : Int) ≤ (k : Int) := by omega
      have i2 : (k : Int) < (n : Int) := by omega
      go_wp2_with fail
      refine (l01FIs_any x y _).mono ?_; rintro e w1 ⟨rfl, hb1⟩
      have HB := Lib.hid (hb.trans (hb1.mono hb.size))
      clear hb hb1 d0 d1
      cases hf : fIs x y
      · have hF := HF.out hf
        go_wp2_with fail
        go_ret
        exact ⟨ret_bool (by rw [hF]), HB.out⟩
      · have HT2 := Lib.hid (HT.out hf)
        clear HT HF hf
        go_wp2_with fail
        go_roundw
        case rel => exact ⟨k + 1, by omega, by go_num, HB.out, HT2.out⟩
        case measure => simp [intOf]; omega
    · have hF : faB l = true := faB_yes (fun j hj => HA.out j hj (by have := HN.out; omega))
      go_wp2_with fail
      go_ret
      exact ⟨ret_bool (by rw [hF]), hb⟩
end Go.Proofs.Ytnpigefbdadjfaa
