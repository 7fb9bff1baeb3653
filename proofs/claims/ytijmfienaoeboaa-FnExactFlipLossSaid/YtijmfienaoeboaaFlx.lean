/- The model's l00Has and l03Other (the like of Esa and FlS, for texts that import neither). -/
import Derived.Test.YtijmfienaoeboaaRd
import Derived.Test.YtijmfienaoeboaaOwn
import Derived.Deep.QuietTactic
import Derived.Deep.RegionHeld3
namespace Go.Proofs.Ytijmfienaoeboaa
open Go Go.RowKit
set_option linter.unusedVariables false

theorem hasX_at {l : List Int} {x : Int} {k : Nat} (hk : k < l.length) (h : l[k] = x) : l.contains x = true := by
  rw [List.contains_iff_mem, ← h]; exact List.getElem_mem hk
theorem hasX_not {l : List Int} {x : Int} (h : ∀ j (hj : j < l.length), l[j] ≠ x) : l.contains x = false := by
  cases e : l.contains x
  · rfl
  · rw [List.contains_iff_mem] at e
    obtain ⟨k, hk, e⟩ := List.getElem_of_mem e
    exact absurd e (h k hk)

set_option maxRecDepth 100000 in
set_option maxHeartbeats 1000000 in
theorem l00HasX_any (w : World) (v : Value) (l : List Int) (x : Int) (h : Rd w v l) :
    Calls Try.prog 84 #[v, .int .i64 x] w fun e w' => e = .returned (.bool (l.contains x)) ∧ w = w' := by
  have hlen := h.len
  obtain ⟨A, n, c, rfl, hn, -, -, r⟩ := h
  have hnl : n ≤ 9223372036854775807 := by unfold maxLen at hlen; omega
  have HN := Lib.hid hn
  have HR := Lib.hid r
  clear hn r hlen
  go_enter Try.func84, Try.ntmps84
  go_wp2_with fail
  go_loop [5] (fun i => ∃ k : Nat, k ≤ n ∧ i = .int .i64 k ∧ ∀ j (hj : j < l.length), j < k → l[j] ≠ x) (fun i => n - (intOf i).toNat)
  case atStart => exact ⟨0, Nat.zero_le _, rfl, fun j _ h => by omega⟩
  case round =>
    obtain ⟨k, hk, rfl, hbe⟩ := hrel
    have HBE := Lib.hid hbe
    clear hbe
    by_cases hlt : k < n
    · obtain ⟨b, o, rfl, hlt0, hc⟩ := HR.out (by omega)
      have hkl : k < l.length := by have := HN.out; omega
      have hc0 := hc k hkl
      have hk0 : (0 : Int) ≤ (k : Int) := by omega
      have hk1 : (k : Int) < (n : Int) := by omega
      by_cases hx : l[k] = x
      · have HE : Hid (l.contains x = true) := hasX_at hkl hx
        have hq : (x == x) = true := by simp
        rw [hx] at hc0
        clear hc hx
        go_wp2_with fail
        go_ret
        exact ⟨ret_bool (by have e := HE.out; simp at e; simp [e]), rfl⟩
      · have hq : (l[k] == x) = false := beq_f hx
        have HX := Lib.hid hx
        clear hc hx
        generalize hy : l[k] = y at *
        have HY := Lib.hid hy
        clear hy
        go_wp2_with fail
        go_round
        case rel => exact ⟨k + 1, by omega, by go_num, fun j hj hjk => by
          by_cases e : j = k
          · subst e; rw [HY.out]; exact HX.out
          · exact HBE.out j hj (by omega)⟩
        case measure => simp [intOf]; omega
    · have HE : Hid (l.contains x = false) := hasX_not (fun j hj => HBE.out j hj (by have := HN.out; omega))
      go_wp2_with fail
      go_ret
      exact ⟨ret_bool (by have e := HE.out; simp at e; simp [e]), rfl⟩


theorem flipX_bit {c : UInt8} (h : 48 ≤ (c.toNat : Int) ∧ (c.toNat : Int) ≤ 49) : ((97 - c : UInt8).toNat : Int) = 97 - (c.toNat : Int) := by
  rw [UInt8.toNat_sub]
  have e : (97 : UInt8).toNat = 97 := rfl
  rw [e]
  omega

/-- All bits changed. -/
def othX (l : List UInt8) : List UInt8 := l.map fun c => 97 - c
theorem othX_snoc (l : List UInt8) (c : UInt8) : othX (l ++ [c]) = othX l ++ [97 - c] := by simp [othX]
theorem othX_len (l : List UInt8) : (othX l).length = l.length := by simp [othX]

set_option maxRecDepth 100000 in
theorem l03OtherX_any (s : ByteArray) (w : World) (hs : s.size ≤ 400) (hb : inR 48 49 s.data.toList = true) :
    Calls Try.prog 83 #[.string s] w fun e w' => e = .returned (.string ⟨(othX s.data.toList).toArray⟩) ∧ Below w.heap.size w w' := by
  obtain ⟨i0, hi, hz0, hz1, hz2⟩ := info_parts Try.infoByte
  have HIN := Lib.hid hb
  clear hb
  go_enter Try.func83, Try.ntmps83
  go_wp2_with fail
  go_loopw [3, 4] (fun v i wr => ∃ k : Nat, k ≤ s.size ∧ i = .int .i64 k ∧ wr.ownsRow w.heap.size 5 1 v k (byteVals (othX (s.data.toList.take k))) ∧ Below w.heap.size w wr) (fun _ i _ => s.size - (intOf i).toNat)
  case atStart => exact ⟨0, Nat.zero_le _, rfl, World.ownsRow_made w #[] 0 (Nat.le_refl _) (by decide) rfl, (Below.refl _ _).alloc (Nat.le_refl _) _⟩
  case round =>
    obtain ⟨k, hk, rfl, hown, hb⟩ := hrel
    by_cases hlt : k < s.size
    · have hin := inR_at 48 49 s k hlt HIN.out
      have hft := flipX_bit hin
      have HOS : Hid (othX (s.data.toList.take (k + 1)) = othX (s.data.toList.take k) ++ [97 - s[k]]) := by show _ = _; rw [take_snoc s k hlt, othX_snoc]
      obtain ⟨h1, h2⟩ := hin
      have HFT := Lib.hid hft
      have HOWN := Lib.hid hown
      have HB := Lib.hid hb
      clear hft hown hb
      go_wp2_with (at_builtin; refine wpList_append_own _ rfl _ _ 49 rfl w.heap.size 5 i0 (.int .u8 0) 1 1 Try.underlying49 hi hz0 hz1 hz2 rfl (by decide) _ _ _ rfl (World.ownsRow.alloc HOWN.out _) ⟨wr.heap.size, 0, none⟩ 1 1 [.int .u8 (97 - (s[k].toNat : Int))] rfl rfl ?c1 ?c2 ?c3 ?c4 ?c5 ?_)
      case c1 => exact c1_one _ _ _
      case c2 => intro u hu; simp at hu; subst hu; rfl
      case c3 => unfold maxLen; omega
      case c4 => omega
      case c5 => have := HB.out.size; simp; omega
      intro v' w1 hown' hgrow _
      have HB1 := Lib.hid (below_app HB.out HB.out.size HOWN.out hgrow)
      rw [← HFT.out, byteVals_snoc, ← HOS.out] at hown'
      have HO1 := Lib.hid hown'
      clear hgrow hown' HOWN HB
      go_wp2_with fail
      go_roundw
      case rel => exact ⟨k + 1, by omega, by go_num, HO1.out, HB1.out⟩
      case measure => simp [intOf]; omega
    · obtain rfl : k = s.size := by omega
      have e : s.data.toList.take s.size = s.data.toList := take_all s s.size (Nat.lt_irrefl _)
      rw [e] at hown
      have hcv := conv_own hown
      have HB := Lib.hid hb
      clear hb hown e
      go_wp2_with fail
      go_ret
      exact ⟨rfl, HB.out⟩

end Go.Proofs.Ytijmfienaoeboaa
