/- Both EdgesOf. -/
import Derived.Test.YtjmaapbodacggaaEdP
import Derived.Test.YtjmaapbodacggaaRlC
import Derived.Test.YtjmaapbodacggaaMki
namespace Go.Proofs.Ytjmaapbodacggaa
open Go Go.RowKit
set_option linter.unusedVariables false

def egV (l : List UInt8) : List Int := edV l (isB l)
theorem egV_len (l : List UInt8) : (egV l).length ≤ 400 := by
  unfold egV edV
  split
  · rename_i h
    unfold isB at h
    have h2 := of_decide_eq_true (Bool.and_eq_true_iff.1 h).1
    have := edK_len l l.length
    omega
  · simp
theorem egV_no {l : List UInt8} (h : isB l = false) : egV l = [] := by unfold egV edV; rw [h]; rfl
theorem egV_yes {l : List UInt8} (h : isB l = true) : egV l = edK l l.length := by unfold egV edV; rw [h]; rfl

set_option maxRecDepth 100000 in
set_option maxHeartbeats 1000000 in
theorem l07Edges_any (s : ByteArray) (w : World) (hs : s.size ≤ 400) :
    Calls Try.prog 55 #[.string s] w fun e w' => ∃ v, e = .returned v ∧ Own w' w.heap.size v (edK s.data.toList s.size) ∧ Below w.heap.size w w' := by
  obtain ⟨i0, hi, hz0, hz1, hz2⟩ := info_parts Try.infoInt
  have HNEW := Lib.hid (fun k h => edK_new (l := s.data.toList) (k := k) h)
  have HOLD := Lib.hid (fun k h => edK_old (l := s.data.toList) (k := k) h)
  have HLE := Lib.hid (edK_len s.data.toList)
  have HEL : Hid (∀ k (h : k < s.size), s.data.toList[k]? = some s[k]) := by
    show ∀ _ _, _
    intro k h
    rw [List.getElem?_eq_getElem (by simpa using h)]; rfl
  go_enter Try.func55, Try.ntmps55
  go_wp2_with fail
  go_loopw [3, 4] (fun v i wr => ∃ k : Nat, k ≤ s.size ∧ i = .int .i64 k ∧ wr.ownsRow w.heap.size 2 1 v (edK s.data.toList k).length (intVals (edK s.data.toList k)) ∧ Below w.heap.size w wr ∧ w.heap.size ≤ wr.heap.size) (fun _ i _ => s.size - (intOf i).toNat)
  case atStart => exact ⟨0, Nat.zero_le _, rfl, World.ownsRow_made w #[] 0 (Nat.le_refl _) (by decide) rfl, (Below.refl _ _).alloc (Nat.le_refl _) _, by simp⟩
  case round =>
    obtain ⟨k, hk, rfl, hown, hb, hB⟩ := hrel
    have HO := Lib.hid hown
    have HB := Lib.hid hb
    clear hown hb
    by_cases hlt : k < s.size
    · have hk0 : (0 : Int) ≤ (k : Int) := by omega
      have hk1 : (k : Int) < (s.size : Int) := by omega
      have hle := HLE.out k
      by_cases hz : k = 0
      · subst hz
        have HR := Lib.hid (HNEW.out 0 (.inl rfl))
        clear HNEW HOLD HEL
        generalize edK s.data.toList 0 = L at *
        go_wp2_with fail
        go_quiet (fail)
        go_wp2_with (at_builtin; refine wpList_append_lies _ rfl _ _ 22 rfl w.heap.size 2 i0 (.int .i64 0) 1 8 Try.underlying22 hi hz0 hz1 hz2 rfl (by decide) _ _ _ rfl (HO.out.alloc _) ⟨wr.heap.size, 0, none⟩ 1 1 [.int .i64 0] rfl rfl ?c1 ?c2 (by decide) ?c3 ?c4 ?c5 (wr.heap.size + 1) (by simp) ?_)
        case c1 => exact c1_int _ _ _
        case c2 => intro u hu; simp at hu; subst hu; rfl
        case c3 => unfold maxLen; omega
        case c4 => omega
        case c5 => simp; omega
        intro g cap w2 hown2 hgrow hat hlt2
        have HB2 := Lib.hid (below_row (below_dn HB.out nq) hB (Nat.le_refl _) (own_drewN HO.out nq) hgrow)
        have HO2 : Hid (w2.ownsRow w.heap.size 2 1 (.slice (some ⟨g, 0, none⟩) (L.length + 1) cap) (edK s.data.toList (0 + 1)).length (intVals (edK s.data.toList (0 + 1)))) := by
          show World.ownsRow _ _ _ _ _ _ _
          rw [HR.out, List.length_append, ← intVals_snoc]; exact hown2
        clear hown2 hgrow hat hlt2
        go_wp2_with fail
        go_roundw
        case rel => exact ⟨1, by omega, by go_num, HO2.out, HB2.out, HB2.out.size⟩
        case measure => simp [intOf]; omega
      · have hkn : 0 < k := by omega
        have hk3 : (0 : Int) < (k : Int) := by omega
        have hw1 : IntKind.i64.wrap ((k : Int) - 1) = (k : Int) - 1 := IntWalk.i64_in _ (by omega)
        have hk4 : (0 : Int) ≤ (k : Int) - 1 := by omega
        have hk5 : (k : Int) - 1 < (s.size : Int) := by omega
        have hk6 : ((k : Int) - 1).toNat = k - 1 := by omega
        have hkz : ((k : Int) == 0) = false := beq_f (by omega)
        have hky : (k == 0) = false := by simp; omega
        have e1 := HEL.out k hlt
        have e2 := HEL.out (k - 1) (by omega)
        obtain ⟨X, hX⟩ : ∃ X : Int, (s[k].toNat : Int) = X := ⟨_, rfl⟩
        obtain ⟨Y, hY⟩ : ∃ Y : Int, ((s[k - 1]'(by omega)).toNat : Int) = Y := ⟨_, rfl⟩
        by_cases hx : X = Y
        · have hold : ¬ (k = 0 ∨ s.data.toList[k]? ≠ s.data.toList[k - 1]?) := by
            rintro (h | h)
            · omega
            · apply h
              rw [e1, e2, show s[k] = s[k - 1]'(by omega) from UInt8.toNat_inj.1 (by omega)]
          have HR := Lib.hid (HOLD.out k hold)
          have hne : (X != Y) = false := bne_f hx
          clear hold e1 e2 hx HNEW HOLD HEL
          go_wp2_with fail
          go_quiet (fail)
          go_wp2_with fail
          go_roundw
          case rel => exact ⟨k + 1, by omega, by go_num, by rw [HR.out]; exact own_drewN HO.out _, below_dn HB.out _, by simpa using hB⟩
          case measure => simp [intOf]; omega
        · have hnew : k = 0 ∨ s.data.toList[k]? ≠ s.data.toList[k - 1]? := by
            refine .inr (fun h => hx ?_)
            rw [e1, e2] at h
            injection h with h
            rw [← hX, ← hY, h]
          have HR := Lib.hid (HNEW.out k hnew)
          have hne : (X != Y) = true := bne_t hx
          clear hnew e1 e2 hx HNEW HOLD HEL
          generalize edK s.data.toList k = L at *
          go_wp2_with fail
          go_quiet (fail)
          go_wp2_with (at_builtin; refine wpList_append_lies _ rfl _ _ 22 rfl w.heap.size 2 i0 (.int .i64 0) 1 8 Try.underlying22 hi hz0 hz1 hz2 rfl (by decide) _ _ _ rfl (HO.out.alloc _) ⟨wr.heap.size, 0, none⟩ 1 1 [.int .i64 (k : Int)] rfl rfl ?c1 ?c2 (by decide) ?c3 ?c4 ?c5 (wr.heap.size + 1) (by simp) ?_)
          case c1 => exact c1_int _ _ _
          case c2 => intro u hu; simp at hu; subst hu; rfl
          case c3 => unfold maxLen; omega
          case c4 => omega
          case c5 => simp; omega
          intro g cap w2 hown2 hgrow hat hlt2
          have HB2 := Lib.hid (below_row (below_dn HB.out nq) hB (Nat.le_refl _) (own_drewN HO.out nq) hgrow)
          have HO2 : Hid (w2.ownsRow w.heap.size 2 1 (.slice (some ⟨g, 0, none⟩) (L.length + 1) cap) (edK s.data.toList (k + 1)).length (intVals (edK s.data.toList (k + 1)))) := by
            show World.ownsRow _ _ _ _ _ _ _
            rw [HR.out, List.length_append, ← intVals_snoc]; exact hown2
          clear hown2 hgrow hat hlt2
          go_wp2_with fail
          go_roundw
          case rel => exact ⟨k + 1, by omega, by go_num, HO2.out, HB2.out, HB2.out.size⟩
          case measure => simp [intOf]; omega
    · obtain rfl : k = s.size := by omega
      clear HNEW HOLD HEL HLE
      go_wp2_with fail
      go_ret
      exact ⟨_, rfl, HO.out, HB.out⟩

set_option maxRecDepth 100000 in
theorem edges_spec (s : ByteArray) (w : World) (hs : s.size ≤ maxLen) :
    Calls Try.prog 15 #[.string s] w fun e w' => ∃ v, e = .returned (.tuple #[v, .bool (isB s.data.toList)]) ∧ Own w' w.heap.size v (egV s.data.toList) ∧ Below w.heap.size w w' := by
  have HBI := Lib.hid (fun W => l01Bits_any s W hs)
  cases h : isB s.data.toList
  · rw [egV_no h]
    rw [h] at HBI
    clear h hs
    go_enter Try.func15, Try.ntmps15
    go_wp2_with fail
    refine (HBI.out _).mono ?_; rintro e w' ⟨rfl, rfl⟩
    go_wp2_with fail
    go_ret2
    exact ⟨_, rfl, World.ownsRow_nil _ _ _ _, Below.refl _ _⟩
  · rw [egV_yes h]
    have HE := Lib.hid (fun W => l07Edges_any s W (isB_len h))
    rw [h] at HBI
    clear h hs
    go_enter Try.func15, Try.ntmps15
    go_wp2_with fail
    refine (HBI.out _).mono ?_; rintro e w' ⟨rfl, rfl⟩
    go_wp2_with fail
    refine (HE.out _).mono ?_; rintro e w' ⟨v, rfl, ho, hb⟩
    go_wp2_with fail
    go_ret2
    exact ⟨_, rfl, ho, hb⟩

set_option maxRecDepth 100000 in
set_option maxHeartbeats 1000000 in
theorem edges_impl (s : ByteArray) (w : World) (hs : s.size ≤ maxLen) :
    Calls Try.prog 16 #[.string s] w fun e w' => ∃ v, e = .returned (.tuple #[v, .bool (isB s.data.toList)]) ∧ Own w' w.heap.size v (egV s.data.toList) ∧ Below w.heap.size w w' := by
  have HRL := Lib.hid (runLengths_impl s w hs)
  cases h : isB s.data.toList
  · rw [egV_no h]
    rw [h] at HRL
    clear h hs
    go_enter Try.func16, Try.ntmps16
    go_wp2_with fail
    refine HRL.out.mono ?_; rintro e w1 ⟨v, rfl, ho, hb⟩
    have HB1 := Lib.hid hb
    clear ho hb
    go_wp2_with fail
    go_ret2
    exact ⟨_, rfl, World.ownsRow_nil _ _ _ _, HB1.out⟩
  · rw [egV_yes h]
    have hr : rl s.data.toList = runsK s.data.toList s.data.toList.length := by unfold rl; rw [if_pos h]
    rw [h] at HRL
    rw [hr] at HRL
    have HSZ := isB_len h
    have hpe := (edges_runs s.data.toList s.data.toList.length).1
    rw [← hpe]
    have HBD := Lib.hid (fun i hi => sumT_bd s.data.toList s.data.toList.length i hi)
    have hll : s.data.toList.length = s.size := rfl
    have hrn := runsK_le s.data.toList s.data.toList.length
    rw [hll] at HRL HBD hrn ⊢
    generalize runsK s.data.toList s.size = R at *
    have HSU := Lib.hid (fun i hi => sumT_succ R i hi)
    have HPL := Lib.hid (psum_len R)
    have HPA := Lib.hid (fun i hi => psum_at R i hi)
    have HZ : Hid (sumT R 0 = 0) := sumT_zero R
    clear h hs hr hpe hll
    go_enter Try.func16, Try.ntmps16
    go_wp2_with fail
    refine HRL.out.mono ?_; rintro e w1 ⟨v, rfl, ho, hb⟩
    obtain ⟨A, n, c, rfl, hn, -, -, hcs⟩ := ho.rd
    have HN := Lib.hid hn
    have HCS := Lib.hid hcs
    have HB1 := Lib.hid hb
    have hn4 : n ≤ 400 := by omega
    have hmk := make_i64 n (by omega)
    have HF0 := Lib.hid (Fil.start w1 w.heap.size n (psum R) (by rw [HPL.out, HN.out]) (by omega) HB1.out.size)
    have HK0 : Hid (Below w1.heap.size w1 (w1.alloc (.cells (List.replicate n (Value.int .i64 0)).toArray 2))) := (Below.refl _ _).alloc (Nat.le_refl _) _
    clear ho hb hn hcs HRL hrn
    go_wp2_with fail
    go_loopw [7, 22] (fun f i wr => ∃ k : Nat, k ≤ n ∧ i = .int .i64 k ∧ f = .int .i64 (sumT R k) ∧ Fil wr w.heap.size w1.heap.size n (psum R) k ∧ Below w1.heap.size w1 wr) (fun _ i _ => n - (intOf i).toNat)
    case atStart => exact ⟨0, Nat.zero_le _, rfl, by rw [HZ.out], HF0.out, HK0.out⟩
    case round =>
      obtain ⟨k, hk, rfl, rfl, hf, hb⟩ := hrel
      have FF := Lib.hid hf
      have BB := Lib.hid hb
      clear hf hb HF0 HK0
      by_cases hlt : k < n
      · have hk1 : (k : Int) < (n : Int) := by omega
        have hk0 : (0 : Int) ≤ (k : Int) := by omega
        have hkR : k < R.length := by rw [HN.out]; exact hlt
        obtain ⟨b, o, rfl, hbl, hc⟩ := HCS.out (by omega)
        have hc0 := (BB.out.cell (p := ⟨b, o + k, none⟩) hbl).trans (hc k hkR)
        obtain ⟨s0, s1⟩ := HBD.out k (by omega)
        obtain ⟨s2, s3⟩ := HBD.out (k + 1) (by omega)
        have hsu := HSU.out k hkR
        have hll := HPL.out
        have hnn := HN.out
        have hpa := HPA.out k hkR
        have HNX : Hid (Fil (wr.setCell ⟨w1.heap.size, k, none⟩ (.int .i64 (sumT R k))) w.heap.size w1.heap.size n (psum R) (k + 1)) := by
          show Fil _ _ _ _ _ _
          have := FF.out.next (by omega) hlt
          rwa [hpa] at this
        have c0 := FF.out.at0 (by omega) hlt
        have c1 := FF.out.fz (by omega) hlt
        have HSU2 := Lib.hid hsu
        clear hll hnn hpa hc HPA HPL HSU HBD HZ
        obtain ⟨S1, hS1⟩ : ∃ S1, S1 = sumT R (k + 1) := ⟨_, rfl⟩
        have HS1 := Lib.hid hS1
        have wv : IntKind.i64.wrap (sumT R k + R[k]) = S1 := by rw [hS1, hsu]; exact IntWalk.i64_in _ (by omega)
        clear hsu hS1
        generalize sumT R k = S0 at *
        generalize R[k] = x at *
        clear HSU2
        go_wp2_with fail
        go_roundw
        case rel => exact ⟨k + 1, by omega, by go_num, by rw [HS1.out], HNX.out, BB.out.setCell (Nat.le_refl _) _⟩
        case measure => simp [intOf] <;> omega
      · obtain rfl : k = n := by omega
        have HO := Lib.hid (FF.out.own (by have := HPL.out; have := HN.out; omega))
        clear HPA HPL HSU HBD HZ
        go_wp2_with fail
        go_ret2
        exact ⟨_, rfl, HO.out, HB1.out.trans (BB.out.mono HB1.out.size)⟩
end Go.Proofs.Ytjmaapbodacggaa
