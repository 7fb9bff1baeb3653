/- The model's l03Index; quiet calls; a beginning of a row of texts (the like of Bm, without block codes: import one of the two). -/
import Derived.Test.YtijmfienaoeboaaWlP
import Derived.Test.YtijmfienaoeboaaRs
import Derived.Laws.StructEq
import Derived.Deep.RegionHeld3
import Derived.Deep.DeepCutAuto
namespace Go.Proofs.Ytijmfienaoeboaa
open Go Go.RowKit
set_option linter.unusedVariables false

theorem str_ne {a b : ByteArray} (h : a ≠ b) : (a.toList == b.toList) = false := by
  rw [← beq_toListBytes]
  cases e : (a == b)
  · rfl
  · refine absurd ?_ h
    cases a with | mk a => cases b with | mk b =>
    have h2 : (a == b) = true := e
    exact congrArg ByteArray.mk (eq_of_beq h2)

set_option maxRecDepth 100000 in
theorem l03Index_any (w : World) (v : Value) (l : List ByteArray) (x : ByteArray) (h : RdS w v l) :
    Calls Try.prog 118 #[v, .string x] w fun e w' => e = .returned (.int .i64 (fnd l x 0)) ∧ w = w' := by
  have hlen := h.len
  unfold maxLen at hlen
  obtain ⟨A, n, c, rfl, hn, -, -, r⟩ := h
  rw [hn] at hlen
  have HN := Lib.hid hn
  have HR := Lib.hid r
  clear hn r
  go_enter Try.func118, Try.ntmps118
  go_wp2_with fail
  go_loop [5] (fun i => ∃ k : Nat, k ≤ n ∧ i = .int .i64 k ∧ fnd (l.drop k) x k = fnd l x 0) (fun i => n - (intOf i).toNat)
  case atStart => exact ⟨0, Nat.zero_le _, rfl, rfl⟩
  case round =>
    obtain ⟨k, hk, rfl, hf⟩ := hrel
    by_cases hlt : k < n
    · obtain ⟨b, o, rfl, hlt0, hc⟩ := HR.out (by omega)
      have hkl : k < l.length := by have := HN.out; omega
      have hc0 := hc k hkl
      rw [fnd_drop l x k hkl] at hf
      have hk0 : (0 : Int) ≤ (k : Int) := by omega
      have hk1 : (k : Int) < (n : Int) := by omega
      have HF := Lib.hid hf
      clear hc hf
      generalize l[k] = y at *
      by_cases e : y = x
      · subst e
        have HE : Hid (fnd l y 0 = (k : Int)) := by show _ = _; have := HF.out; rw [if_pos rfl] at this; exact this.symm
        go_wp2_with fail
        go_ret
        exact ⟨ret_int (by rw [HE.out]), rfl⟩
      · have HE : Hid (fnd (l.drop (k + 1)) x (k + 1) = fnd l x 0) := by show _ = _; have := HF.out; rw [if_neg e] at this; exact this
        have he := str_ne e
        go_wp2_with fail
        go_round
        case rel => exact ⟨k + 1, by omega, by go_num, HE.out⟩
        case measure => simp [intOf]; omega
    · obtain rfl : k = n := by omega
      have HE : Hid (fnd l x 0 = -1) := by show _ = _; rw [List.drop_of_length_le (by have := HN.out; omega), fnd] at hf; exact hf.symm
      clear hf
      go_wp2_with fail
      go_ret
      exact ⟨ret_int HE.out.symm, rfl⟩
theorem quietX_left {P : Program} {f : FuncId} {args : Array Value} {w : World} {n : Nat} {v : Value}
    (h : Calls P f args (w.drewN n) fun e w' => e = .returned v ∧ w.drewN n = w') : Calls P f args (w.drewN n) fun e w'' => e = .returned v ∧ ∃ m, w'' = w.drewN m :=
  h.mono fun _ _ ⟨he, hm⟩ => ⟨he, n, hm.symm⟩
theorem quietX_leftq {P : Program} {f : FuncId} {args : Array Value} {w : World} {q n : Nat} {v : Value}
    (h : Calls P f args (w.drewN (q + n)) fun e w' => e = .returned v ∧ w.drewN (q + n) = w') : Calls P f args (w.drewN (q + n)) fun e w'' => e = .returned v ∧ ∃ m, w'' = w.drewN (q + m) :=
  h.mono fun _ _ ⟨he, hm⟩ => ⟨he, n, hm.symm⟩
theorem RdS.take {w : World} {b o n c : Nat} {l : List ByteArray} (h : RdS w (.slice (some ⟨b, o, none⟩) n c) l) (k : Nat) (hk : k ≤ n) : RdS w (.slice (some ⟨b, o, none⟩) k c) (l.take k) := by
  obtain ⟨A, n', c', e, hn, h1, h2, h3⟩ := h
  injection e with e1 e2 e3
  subst e1 e2 e3
  refine ⟨_, _, _, rfl, by rw [List.length_take]; omega, by omega, h2, fun h0 => ?_⟩
  obtain ⟨b', o', ea, hlt, hc⟩ := h3 (by omega)
  injection ea with ea
  injection ea with e1 e2 _
  subst e1 e2
  refine ⟨_, _, rfl, hlt, fun i hi => ?_⟩
  rw [List.length_take] at hi
  rw [List.getElem_take]
  exact hc i (by omega)

end Go.Proofs.Ytijmfienaoeboaa
