/- Contracts of the model's l03Disparity at any text, l03Index, l03Words. -/
import Derived.Test.YtjmaapbodacggaaBcP
import Derived.Test.YtjmaapbodacggaaRs
import Derived.Test.YtjmaapbodacggaaBtw
import Derived.Laws.StructEq
import Derived.Deep.RegionHeld3
import Derived.Deep.DeepCutAuto
namespace Go.Proofs.Ytjmaapbodacggaa
open Go Go.RowKit
set_option linter.unusedVariables false

/-- What the model counts at any text. -/
def onesW (l : List UInt8) : Int := l.foldl (fun a c => a + ((c.toNat : Int) - 48) % 256) 0
theorem onesW_snoc (l : List UInt8) (c : UInt8) : onesW (l ++ [c]) = onesW l + ((c.toNat : Int) - 48) % 256 := by simp [onesW, List.foldl_append]
theorem onesW_bd : ∀ (n : Nat) (l : List UInt8), l.length = n → 0 ≤ onesW l ∧ onesW l ≤ 255 * n ∧ (inR 48 49 l = true → onesW l = onesL l) := by
  intro n
  induction n with
  | zero => intro l hl; rw [List.length_eq_zero_iff] at hl; subst hl; exact ⟨by decide, by decide, fun _ => rfl⟩
  | succ n ih =>
    intro l hl
    rcases List.eq_nil_or_concat l with rfl | ⟨m, c, rfl⟩
    · simp at hl
    · rw [List.concat_eq_append] at *
      obtain ⟨h1, h2, h3⟩ := ih m (by simp at hl; omega)
      rw [onesW_snoc]
      refine ⟨by omega, by omega, fun h => ?_⟩
      rw [inR_append] at h
      have h' := Bool.and_eq_true_iff.1 h
      have hc : 48 ≤ (c.toNat : Int) ∧ (c.toNat : Int) ≤ 49 := by simpa [inR] using h'.2
      rw [onesL_snoc _ _ hc, h3 h'.1]
      omega

set_option maxRecDepth 100000 in
theorem l01Ones_gen (s : ByteArray) (w : World) (hs : s.size ≤ 4000000) :
    Calls Try.prog 144 #[.string s] w fun e w' => e = .returned (.int .i64 (onesW s.data.toList)) ∧ w = w' := by
  go_enter Try.func144, Try.ntmps144
  go_wp2
  go_loop [3, 4] (fun n i => ∃ k : Nat, k ≤ s.size ∧ i = .int .i64 k ∧ n = .int .i64 (onesW (s.data.toList.take k))) (fun _ i => s.size - (intOf i).toNat)
  case atStart => exact ⟨0, Nat.zero_le _, rfl, rfl⟩
  case round =>
    obtain ⟨k, hk, rfl, rfl⟩ := hrel
    by_cases hp : k < s.size
    · have hsn : onesW (s.data.toList.take (k + 1)) = onesW (s.data.toList.take k) + ((s[k].toNat : Int) - 48) % 256 := by rw [take_snoc s k hp, onesW_snoc]
      have HS := Lib.hid hsn
      obtain ⟨h3, h4, -⟩ := onesW_bd _ (s.data.toList.take k) rfl
      have h5 : onesW (s.data.toList.take k) ≤ 1020000000 := by
        have : (s.data.toList.take k).length ≤ k := List.length_take_le _ _
        omega
      have hb : (s[k].toNat : Int) ≤ 255 := by have := s[k].toNat_lt; omega
      have hw : IntKind.u8.wrap ((s[k].toNat : Int) - 48) = ((s[k].toNat : Int) - 48) % 256 := by rfl
      have hw0 : 0 ≤ ((s[k].toNat : Int) - 48) % 256 := by omega
      have hw1 : ((s[k].toNat : Int) - 48) % 256 ≤ 255 := by omega
      clear hsn h4
      go_wp2
      go_round
      case rel => exact ⟨k + 1, by omega, by go_num, by rw [HS.out]⟩
      case measure => simp [intOf]; omega
    · have HE := Lib.hid (take_all s k hp)
      go_wp2
      go_ret
      exact ⟨ret_int (by rw [HE.out]), rfl⟩

/-- The disparity that the model counts at any text. -/
def disW (l : List UInt8) : Int := 2 * onesW l - l.length
theorem disW_bits {l : List UInt8} (h : isB l = true) : disW l = disL l := by
  unfold disW disL
  rw [(onesW_bd _ l rfl).2.2 (isB_parts h).2]

theorem l03Disparity_gen (s : ByteArray) (w : World) (hs : s.size ≤ 4000000) :
    Calls Try.prog 134 #[.string s] w fun e w' => e = .returned (.int .i64 (disW s.data.toList)) ∧ w = w' := by
  have HE : Hid (disW s.data.toList = 2 * onesW s.data.toList - (s.size : Int)) := by show _ = _; unfold disW; simp
  obtain ⟨o1, o2, -⟩ := onesW_bd _ s.data.toList rfl
  have o3 : onesW s.data.toList ≤ 1020000000 := by
    have : s.data.toList.length = s.size := by simp
    omega
  have HC := Lib.hid (fun W => l01Ones_gen s W hs)
  clear o2
  generalize onesW s.data.toList = o at *
  generalize disW s.data.toList = D at *
  go_enter Try.func134, Try.ntmps134
  go_wp2_with fail
  refine (HC.out _).mono ?_; rintro e w' ⟨rfl, rfl⟩
  go_wp2_with fail
  go_ret
  exact ⟨ret_int (by rw [HE.out]), rfl⟩

theorem str_ne {a b : ByteArray} (h : a ≠ b) : (a.toList == b.toList) = false := by
  rw [← beq_toListBytes]
  cases e : (a == b)
  · rfl
  · refine absurd ?_ h
    cases a with | mk a => cases b with | mk b =>
    have h2 : (a == b) = true := e
    exact congrArg ByteArray.mk (eq_of_beq h2)

set_option maxRecDepth 100000 in
theorem l03Index_any (w : World) (v : Value) (l : List ByteArray) (x : ByteArray) (h : RdS w v l) :
    Calls Try.prog 111 #[v, .string x] w fun e w' => e = .returned (.int .i64 (fnd l x 0)) ∧ w = w' := by
  have hlen := h.len
  unfold maxLen at hlen
  obtain ⟨A, n, c, rfl, hn, -, -, r⟩ := h
  rw [hn] at hlen
  have HN := Lib.hid hn
  have HR := Lib.hid r
  clear hn r
  go_enter Try.func111, Try.ntmps111
  go_wp2_with fail
  go_loop [5] (fun i => ∃ k : Nat, k ≤ n ∧ i = .int .i64 k ∧ fnd (l.drop k) x k = fnd l x 0) (fun i => n - (intOf i).toNat)
  case atStart => exact ⟨0, Nat.zero_le _, rfl, rfl⟩
  case round =>
    obtain ⟨k, hk, rfl, hf⟩ := hrel
    by_cases hlt : k < n
    · obtain ⟨b, o, rfl, hlt0, hc⟩ := HR.out (by omega)
      have hkl : k < l.length := by have := HN.out; omega
      have hc0 := hc k hkl
      rw [fnd_drop l x k hkl] at hf
      have hk0 : (0 : Int) ≤ (k : Int) := by omega
      have hk1 : (k : Int) < (n : Int) := by omega
      have HF := Lib.hid hf
      clear hc hf
      generalize l[k] = y at *
      by_cases e : y = x
      · subst e
        have HE : Hid (fnd l y 0 = (k : Int)) := by show _ = _; have := HF.out; rw [if_pos rfl] at this; exact this.symm
        go_wp2_with fail
        go_ret
        exact ⟨ret_int (by rw [HE.out]), rfl⟩
      · have HE : Hid (fnd (l.drop (k + 1)) x (k + 1) = fnd l x 0) := by show _ = _; have := HF.out; rw [if_neg e] at this; exact this
        have he := str_ne e
        go_wp2_with fail
        go_round
        case rel => exact ⟨k + 1, by omega, by go_num, HE.out⟩
        case measure => simp [intOf]; omega
    · obtain rfl : k = n := by omega
      have HE : Hid (fnd l x 0 = -1) := by show _ = _; rw [List.drop_of_length_le (by have := HN.out; omega), fnd] at hf; exact hf.symm
      clear hf
      go_wp2_with fail
      go_ret
      exact ⟨ret_int HE.out.symm, rfl⟩
theorem quiet_left {P : Program} {f : FuncId} {args : Array Value} {w : World} {n : Nat} {v : Value}
    (h : Calls P f args (w.drewN n) fun e w' => e = .returned v ∧ w.drewN n = w') : Calls P f args (w.drewN n) fun e w'' => e = .returned v ∧ ∃ m, w'' = w.drewN m :=
  h.mono fun _ _ ⟨he, hm⟩ => ⟨he, n, hm.symm⟩
theorem quiet_leftq {P : Program} {f : FuncId} {args : Array Value} {w : World} {q n : Nat} {v : Value}
    (h : Calls P f args (w.drewN (q + n)) fun e w' => e = .returned v ∧ w.drewN (q + n) = w') : Calls P f args (w.drewN (q + n)) fun e w'' => e = .returned v ∧ ∃ m, w'' = w.drewN (q + m) :=
  h.mono fun _ _ ⟨he, hm⟩ => ⟨he, n, hm.symm⟩
theorem RdS.take {w : World} {b o n c : Nat} {l : List ByteArray} (h : RdS w (.slice (some ⟨b, o, none⟩) n c) l) (k : Nat) (hk : k ≤ n) : RdS w (.slice (some ⟨b, o, none⟩) k c) (l.take k) := by
  obtain ⟨A, n', c', e, hn, h1, h2, h3⟩ := h
  injection e with e1 e2 e3
  subst e1 e2 e3
  refine ⟨_, _, _, rfl, by rw [List.length_take]; omega, by omega, h2, fun h0 => ?_⟩
  obtain ⟨b', o', ea, hlt, hc⟩ := h3 (by omega)
  injection ea with ea
  injection ea with e1 e2 _
  subst e1 e2
  refine ⟨_, _, rfl, hlt, fun i hi => ?_⟩
  rw [List.length_take] at hi
  rw [List.getElem_take]
  exact hc i (by omega)

set_option maxHeartbeats 1600000 in
set_option maxRecDepth 100000 in
theorem l03Words_any (w : World) (v : Value) (l : List ByteArray) (wd disp : Int) (h : RdS w v l) (hm : ∀ s ∈ l, s.size ≤ 4000000) :
    Calls Try.prog 133 #[v, .int .i64 wd, .int .i64 disp] w fun e w' => e = .returned (.bool (wordsOk wd disp l)) ∧ ∃ q, w' = w.drewN q := by
  have hlen := h.len
  unfold maxLen at hlen
  have HH := Lib.hid h
  obtain ⟨A, n, c, rfl, hn, hnc, -, r⟩ := h
  rw [hn] at hlen
  have HN := Lib.hid hn
  have HR := Lib.hid r
  have HM := Lib.hid hm
  clear hn r hm
  go_enter Try.func133, Try.ntmps133
  go_wp2_with fail
  go_loopw [7] (fun i wr => ∃ k q : Nat, k ≤ n ∧ i = .int .i64 k ∧ wr = w.drewN q ∧ wordsOk wd disp (l.take k) = true) (fun i _ => n - (intOf i).toNat)
  case atStart => exact ⟨0, 0, Nat.zero_le _, rfl, rfl, by rw [List.take_zero]; exact wordsOk_nil _ _⟩
  case round =>
    obtain ⟨k, q, hk, rfl, rfl, hf⟩ := hrel
    by_cases hlt : k < n
    · obtain ⟨b, o, rfl, hlt0, hc⟩ := HR.out (by omega)
      have hkl : k < l.length := by have := HN.out; omega
      have hc0 := hc k hkl
      have hs := wordsOk_take_succ wd disp l k hkl
      rw [hf, Bool.true_and] at hs
      have hbad := wordsOk_bad wd disp l k hkl
      have hx := HM.out l[k] (List.getElem_mem hkl)
      have RP := Lib.hid (HH.out.take k hk)
      have hk0 : (0 : Int) ≤ (k : Int) := by omega
      have hk1 : (k : Int) < (n : Int) := by omega
      have hk2 : (k : Int) ≤ (c : Int) := by omega
      have hxs : l[k].size ≤ 9223372036854775807 := by omega
      clear hc HR HM HH hf
      rw [← fnd_nonneg] at hs hbad
      generalize l[k] = x at *
      have HD := Lib.hid (fun W => l03Disparity_gen x W hx)
      have HB := Lib.hid (fun W => l01Bits_any x W (by unfold maxLen; omega))
      have HI := Lib.hid (fun W h => l03Index_any W (.slice (some ⟨b, o, none⟩) k c) (l.take k) x h)
      clear hx
      unfold wordOk at hs hbad
      have hdw := @disW_bits x.data.toList
      cases hb : isB x.data.toList
      · rw [hb] at HB hbad
        have HE := Lib.hid (hbad rfl)
        clear hs hbad hdw hb HI
        generalize disW x.data.toList = D at *
        go_wp2_with fail
        refine (HD.out _).mono ?_; rintro e w' ⟨rfl, rfl⟩
        go_wp2_with fail
        go_quiet ((go_at_call 54; exact quiet_leftq (HB.out _)))
        all_goals go_wp2_with fail
        all_goals go_ret
        all_goals exact ⟨ret_bool (by rw [HE.out]), _, World.drewN_drewN _ _ _⟩
      · rw [hb] at HB hs hbad
        rw [hdw hb] at HD
        clear hdw hb
        generalize disL x.data.toList = D at *
        generalize fnd (l.take k) x 0 = F at *
        by_cases hsz : (x.size : Int) = wd
        · rw [decide_eq_true hsz] at hs hbad
          have s1 : ((x.size : Int) != wd) = false := bne_f hsz
          have HSZ := Lib.hid hsz
          clear hsz
          by_cases hD0 : D = 0
          · rw [decide_eq_true hD0] at hs hbad
            have s2 : (D != 0) = false := bne_f hD0
            clear hD0
            by_cases hF : 0 ≤ F
            · rw [decide_eq_true hF] at hbad
              have HE := Lib.hid (hbad rfl)
              have s3 : decide (0 ≤ F) = true := decide_eq_true hF
              clear hs hbad
              go_wp2_with fail
              refine (HD.out _).mono ?_; rintro e w' ⟨rfl, rfl⟩
              go_wp2_with fail
              go_quiet ((first
                | (go_at_call 54; exact quiet_leftq (HB.out _))
                | (go_at_call 111; exact quiet_leftq (HI.out _ (RP.out.drewN _)))
                ))
              all_goals go_wp2_with fail
              all_goals go_ret
              all_goals exact ⟨ret_bool (by rw [HE.out]), _, World.drewN_drewN _ _ _⟩
            · rw [decide_eq_false hF] at hs
              have HG := Lib.hid (show wordsOk wd disp (l.take (k + 1)) = true from hs)
              have s3 : decide (0 ≤ F) = false := decide_eq_false hF
              clear hs hbad
              go_wp2_with fail
              refine (HD.out _).mono ?_; rintro e w' ⟨rfl, rfl⟩
              go_wp2_with fail
              go_quiet ((first
                | (go_at_call 54; exact quiet_leftq (HB.out _))
                | (go_at_call 111; exact quiet_leftq (HI.out _ (RP.out.drewN _)))
                ))
              all_goals go_wp2_with fail
              all_goals go_roundw
              case rel => exact ⟨k + 1, _, by omega, by go_num, rfl, HG.out⟩
              case measure => simp [intOf]; omega
          · have s2 : (D != 0) = true := bne_t hD0
            rw [decide_eq_false hD0] at hs hbad
            clear hD0
            by_cases hDd : D = disp
            · rw [decide_eq_true hDd] at hs hbad
              have s4 : (D != disp) = false := bne_f hDd
              have HDD := Lib.hid hDd
              clear hDd
              by_cases hF : 0 ≤ F
              · rw [decide_eq_true hF] at hbad
                have HE := Lib.hid (hbad rfl)
                have s3 : decide (0 ≤ F) = true := decide_eq_true hF
                clear hs hbad
                go_wp2_with fail
                refine (HD.out _).mono ?_; rintro e w' ⟨rfl, rfl⟩
                go_wp2_with fail
                go_quiet ((first
                  | (go_at_call 54; exact quiet_leftq (HB.out _))
                  | (go_at_call 111; exact quiet_leftq (HI.out _ (RP.out.drewN _)))
                  ))
                all_goals go_wp2_with fail
                all_goals go_ret
                all_goals exact ⟨ret_bool (by rw [HE.out]), _, World.drewN_drewN _ _ _⟩
              · rw [decide_eq_false hF] at hs
                have HG := Lib.hid (show wordsOk wd disp (l.take (k + 1)) = true from hs)
                have s3 : decide (0 ≤ F) = false := decide_eq_false hF
                clear hs hbad
                go_wp2_with fail
                refine (HD.out _).mono ?_; rintro e w' ⟨rfl, rfl⟩
                go_wp2_with fail
                go_quiet ((first
                  | (go_at_call 54; exact quiet_leftq (HB.out _))
                  | (go_at_call 111; exact quiet_leftq (HI.out _ (RP.out.drewN _)))
                  ))
                all_goals go_wp2_with fail
                all_goals go_roundw
                case rel => exact ⟨k + 1, _, by omega, by go_num, rfl, HG.out⟩
                case measure => simp [intOf]; omega
            · rw [decide_eq_false hDd] at hbad
              have s4 : (D != disp) = true := bne_t hDd
              have HE := Lib.hid (hbad rfl)
              clear hs hbad hDd
              go_wp2_with fail
              refine (HD.out _).mono ?_; rintro e w' ⟨rfl, rfl⟩
              go_wp2_with fail
              go_quiet ((go_at_call 54; exact quiet_leftq (HB.out _)))
              all_goals go_wp2_with fail
              all_goals go_ret
              all_goals exact ⟨ret_bool (by rw [HE.out]), _, World.drewN_drewN _ _ _⟩
        · rw [decide_eq_false hsz] at hbad
          have s1 : ((x.size : Int) != wd) = true := bne_t hsz
          have HE := Lib.hid (hbad rfl)
          clear hs hbad hsz
          go_wp2_with fail
          refine (HD.out _).mono ?_; rintro e w' ⟨rfl, rfl⟩
          go_wp2_with fail
          go_quiet ((go_at_call 54; exact quiet_leftq (HB.out _)))
          all_goals go_wp2_with fail
          all_goals go_ret
          all_goals exact ⟨ret_bool (by rw [HE.out]), _, World.drewN_drewN _ _ _⟩
    · obtain rfl : k = n := by omega
      have HE : Hid (wordsOk wd disp l = true) := by show _ = _; rw [List.take_of_length_le (by have := HN.out; omega)] at hf; exact hf
      clear hf
      go_wp2_with fail
      go_ret
      exact ⟨ret_bool HE.out.symm, _, rfl⟩
end Go.Proofs.Ytjmaapbodacggaa
