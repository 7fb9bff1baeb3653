/- Lists of levels: the program's check and the model's; least and greatest of two; both SumsOf. -/
import Derived.Test.YtmhdjimdhcephaaLvP
import Derived.Test.YtmhdjimdhcephaaNdI
import Derived.Test.YtmhdjimdhcephaaRuns
import Derived.Test.YtmhdjimdhcephaaMki
import Derived.OwnWalk
namespace Go.Proofs.Ytmhdjimdhcephaa
open Go Go.RowKit
set_option linter.unusedVariables false

theorem lMin_any (a b : Int) (w : World) :
    Calls Try.prog 48 #[.int .i64 a, .int .i64 b] w fun e w' => e = .returned (.int .i64 (min a b)) ∧ w = w' := by
  by_cases h : a < b
  · have HE : Hid (min a b = a) := by show _ = _; omega
    go_enter Try.func48, Try.ntmps48
    go_wp2_with fail
    go_ret
    exact ⟨ret_int HE.out.symm, rfl⟩
  · have HE : Hid (min a b = b) := by show _ = _; omega
    go_enter Try.func48, Try.ntmps48
    go_wp2_with fail
    go_ret
    exact ⟨ret_int HE.out.symm, rfl⟩
theorem lMax_any (a b : Int) (w : World) :
    Calls Try.prog 49 #[.int .i64 a, .int .i64 b] w fun e w' => e = .returned (.int .i64 (max a b)) ∧ w = w' := by
  by_cases h : a > b
  · have HE : Hid (max a b = a) := by show _ = _; omega
    go_enter Try.func49, Try.ntmps49
    go_wp2_with fail
    go_ret
    exact ⟨ret_int HE.out.symm, rfl⟩
  · have HE : Hid (max a b = b) := by show _ = _; omega
    go_enter Try.func49, Try.ntmps49
    go_wp2_with fail
    go_ret
    exact ⟨ret_int HE.out.symm, rfl⟩
theorem isLevel_any (n : Int) (w : World) :
    Calls Try.prog 73 #[.int .i64 n] w fun e w' => e = .returned (.bool (rgB (-1) 1 n)) ∧ w = w' := by
  have HC := Lib.hid (rg_is n (-1) 1 w)
  generalize rgB (-1) 1 n = R at *
  go_enter Try.func73, Try.ntmps73
  go_wp2_with fail
  refine HC.out.mono ?_; rintro e w' ⟨rfl, rfl⟩
  go_wp2_with fail
  go_ret
  exact ⟨rfl, rfl⟩
theorem isNoLevel_any (n : Int) (w : World) :
    Calls Try.prog 89 #[.int .i64 n] w fun e w' => e = .returned (.bool (!rgB (-1) 1 n)) ∧ w = w' := by
  have HC := Lib.hid (isLevel_any n w)
  generalize rgB (-1) 1 n = R at *
  go_enter Try.func89, Try.ntmps89
  go_wp2_with fail
  refine HC.out.mono ?_; rintro e w' ⟨rfl, rfl⟩
  go_wp2_with fail
  go_ret
  exact ⟨rfl, rfl⟩
theorem nlv_take (l : List Int) (k : Nat) (h : k < l.length) : ((l.take (k + 1)).any fun x => !rgB (-1) 1 x) = (((l.take k).any fun x => !rgB (-1) 1 x) || !rgB (-1) 1 l[k]) := by
  rw [List.take_succ_eq_append_getElem h, List.any_append]; simp
theorem nlv_yes (l : List Int) (k : Nat) (h : k < l.length) (hf : rgB (-1) 1 l[k] = false) : (l.any fun x => !rgB (-1) 1 x) = true := by
  rw [List.any_eq_true]; exact ⟨_, List.getElem_mem h, by rw [hf]; rfl⟩
theorem lvB_any (l : List Int) : lvB l = (decide (l.length ≤ 800) && !(l.any fun x => !rgB (-1) 1 x)) := by
  unfold lvB
  congr 1
  rw [← Bool.not_not (b := l.all _), List.not_all_eq_any_not]
  rfl
set_option maxRecDepth 100000 in
theorem indexFuncI (w : World) (v : Value) (l : List Int) (h : Rd w v l) :
    Calls Try.prog 120 #[v, .func (.func 89) #[] #[]] w fun e w' => (∃ r : Int, e = .returned (.int .i64 r) ∧ decide (0 ≤ r) = (l.any fun x => !rgB (-1) 1 x) ∧ -1 ≤ r ∧ r ≤ 9223372036854775807) ∧ w = w' := by
  have hlen := h.len
  unfold maxLen at hlen
  obtain ⟨A, n, c, rfl, hn, -, -, r⟩ := h
  rw [hn] at hlen
  have HN := Lib.hid hn
  have HR := Lib.hid r
  have HT := Lib.hid (nlv_take l)
  have HY := Lib.hid (nlv_yes l)
  have HE : Hid ((l.take n).any (fun x => !rgB (-1) 1 x) = (l.any fun x => !rgB (-1) 1 x)) := by show _ = _; rw [List.take_of_length_le (by omega)]
  clear hn r
  generalize (l.any fun x => !rgB (-1) 1 x) = R at *
  go_enter Try.func120, Try.ntmps120
  go_wp2_with fail
  go_loop [8] (fun i => ∃ k : Nat, k ≤ n ∧ i = .int .i64 k ∧ ((l.take k).any fun x => !rgB (-1) 1 x) = false) (fun i => n - (intOf i).toNat)
  case atStart => exact ⟨0, Nat.zero_le _, rfl, rfl⟩
  case round =>
    obtain ⟨k, hk, rfl, hff⟩ := hrel
    have HF0 := Lib.hid hff
    clear hff
    by_cases hlt : k < n
    · obtain ⟨b, o, rfl, hlt0, hc⟩ := HR.out (by omega)
      have hkl : k < l.length := by have := HN.out; omega
      have hc0 := hc k hkl
      have hk0 : (0 : Int) ≤ (k : Int) := by omega
      have hk1 : (k : Int) < (n : Int) := by omega
      have HS := Lib.hid (HT.out k hkl)
      have HYY := Lib.hid (HY.out k hkl)
      have HCC := Lib.hid (isNoLevel_any l[k] w)
      clear hc
      generalize l[k] = x at *
      cases hz : rgB (-1) 1 x
      · rw [hz] at HCC
        have HX := Lib.hid (HYY.out hz)
        clear hz HYY HS
        go_wp2_with fail
        refine HCC.out.mono ?_; rintro e w' ⟨rfl, rfl⟩
        go_wp2_with fail
        go_ret
        exact ⟨⟨k, rfl, by rw [HX.out]; exact decide_eq_true hk0, by omega, by omega⟩, rfl⟩
      · rw [hz] at HCC HS
        have HX : Hid (((l.take (k + 1)).any fun x => !rgB (-1) 1 x) = false) := by show _ = _; rw [HS.out, HF0.out]; rfl
        clear hz HYY HS
        go_wp2_with fail
        refine HCC.out.mono ?_; rintro e w' ⟨rfl, rfl⟩
        go_wp2_with fail
        go_round
        case rel => exact ⟨k + 1, by omega, by go_num, HX.out⟩
        case measure => simp [intOf]; omega
    · obtain rfl : k = n := by omega
      have HX : Hid (R = false) := by show _ = _; rw [← HE.out]; exact HF0.out
      go_wp2_with fail
      go_ret
      exact ⟨⟨-1, rfl, by rw [HX.out]; rfl, by decide, by decide⟩, rfl⟩
theorem containsFuncI (w : World) (v : Value) (l : List Int) (h : Rd w v l) :
    Calls Try.prog 88 #[v, .func (.func 89) #[] #[]] w fun e w' => e = .returned (.bool (l.any fun x => !rgB (-1) 1 x)) ∧ w = w' := by
  have HC := Lib.hid (indexFuncI w v l h)
  obtain ⟨A, cp, rfl⟩ := rd_sh h
  clear h
  generalize (l.any fun x => !rgB (-1) 1 x) = R at *
  go_enter Try.func88, Try.ntmps88
  go_wp2_with fail
  refine HC.out.mono ?_; rintro e w' ⟨⟨r, rfl, hr, r1, r2⟩, rfl⟩
  have HR := Lib.hid hr
  clear hr
  go_wp2_with fail
  go_ret
  exact ⟨ret_bool HR.out, rfl⟩
theorem areLevels_any (w : World) (v : Value) (l : List Int) (h : Rd w v l) :
    Calls Try.prog 50 #[v] w fun e w' => e = .returned (.bool (lvB l)) ∧ w = w' := by
  have hlen := h.len
  unfold maxLen at hlen
  have HC := Lib.hid (containsFuncI w v l h)
  have HE := Lib.hid (lvB_any l)
  obtain ⟨A, cp, rfl⟩ := rd_sh h
  clear h
  by_cases hl : l.length ≤ 800
  · have HX : Hid (lvB l = !(l.any fun x => !rgB (-1) 1 x)) := by show _ = _; rw [HE.out, decide_eq_true hl]; rfl
    clear HE
    generalize lvB l = Q at *
    generalize (l.any fun x => !rgB (-1) 1 x) = R at *
    have hl1 : (l.length : Int) ≤ 800 := by omega
    generalize l.length = n at *
    go_enter Try.func50, Try.ntmps50
    go_wp2_with fail
    refine HC.out.mono ?_; rintro e w' ⟨rfl, rfl⟩
    go_wp2_with fail
    go_ret
    exact ⟨ret_bool HX.out.symm, rfl⟩
  · have HX : Hid (lvB l = false) := lvB_len hl
    clear HE HC
    generalize lvB l = Q at *
    have hl1 : ¬ (l.length : Int) ≤ 800 := by omega
    generalize l.length = n at *
    go_enter Try.func50, Try.ntmps50
    go_wp2_with fail
    go_ret
    exact ⟨ret_bool HX.out.symm, rfl⟩
set_option maxRecDepth 100000 in
theorem l10Is_any (w : World) (v : Value) (l : List Int) (h : Rd w v l) :
    Calls Try.prog 47 #[v] w fun e w' => e = .returned (.bool (lvB l)) ∧ w = w' := by
  have hlen := h.len
  unfold maxLen at hlen
  obtain ⟨A, n, c, rfl, hn, -, -, r⟩ := h
  rw [hn] at hlen
  have HN := Lib.hid hn
  have HR := Lib.hid r
  clear hn r
  go_enter Try.func47, Try.ntmps47
  go_wp2_with fail
  go_loop [3] (fun i => ∃ k : Nat, k ≤ n ∧ i = .int .i64 k ∧ ∀ x ∈ l.take k, -1 ≤ x ∧ x ≤ 1) (fun i => n - (intOf i).toNat)
  case atStart => exact ⟨0, Nat.zero_le _, rfl, by simp⟩
  case round =>
    obtain ⟨k, hk, rfl, hf⟩ := hrel
    by_cases hlt : k < n
    · obtain ⟨b, o, rfl, hlt0, hc⟩ := HR.out (by omega)
      have hkl : k < l.length := by have := HN.out; omega
      have hc0 := hc k hkl
      have hk0 : (0 : Int) ≤ (k : Int) := by omega
      have hk1 : (k : Int) < (n : Int) := by omega
      have HB := Lib.hid (fun h => lvB_bad (List.getElem_mem hkl) h)
      have HF : Hid (-1 ≤ l[k] ∧ l[k] ≤ 1 → ∀ x ∈ l.take (k + 1), -1 ≤ x ∧ x ≤ 1) := by
        show _ → _
        intro hx x hm
        rw [List.take_succ_eq_append_getElem hkl] at hm
        rcases List.mem_append.1 hm with h | h
        · exact hf x h
        · simp at h; rw [h]; exact hx
      clear hc hf
      generalize l[k] = x at *
      by_cases g : -1 ≤ x ∧ x ≤ 1
      · have HX := Lib.hid (HF.out g)
        have HG := Lib.hid g
        clear g HB HF
        go_wp2_with fail
        refine (l00In_yes _ _ _ _ HG.out.1 HG.out.2).mono ?_; rintro e w' ⟨rfl, rfl⟩
        go_wp2_with fail
        go_round
        case rel => exact ⟨k + 1, by omega, by go_num, HX.out⟩
        case measure => simp [intOf]; omega
      · have HX : Hid (lvB l = false) := HB.out g
        have HG := Lib.hid g
        clear g HB HF
        go_wp2_with fail
        refine (l00In_no _ _ _ _ HG.out).mono ?_; rintro e w' ⟨rfl, rfl⟩
        go_wp2_with fail
        go_ret
        exact ⟨ret_bool HX.out.symm, rfl⟩
    · obtain rfl : k = n := by omega
      have HX : Hid (lvB l = decide ((k : Int) ≤ 800)) := by
        show _ = _
        rw [List.take_of_length_le (by have := HN.out; omega)] at hf
        by_cases g : k ≤ 800
        · rw [lvB_mk (by have := HN.out; omega) hf, decide_eq_true (by omega)]
        · rw [lvB_len (by have := HN.out; omega), decide_eq_false (by omega)]
      clear hf
      go_wp2_with fail
      go_ret
      exact ⟨ret_bool HX.out.symm, rfl⟩

theorem ret_iibL {x y a b : Int} {c d : Bool} (h : x = y) (h1 : a = b) (h2 : c = d) : Ending.returned (.tuple #[.int .i64 x, .int .i64 a, .bool c]) = .returned (.tuple #[.int .i64 y, .int .i64 b, .bool d]) := by rw [h, h1, h2]
theorem sm_no {l : List Int} (h : lvB l = false) : smL l = 0 ∧ smH l = 0 := by unfold smL smH; rw [h]; exact ⟨rfl, rfl⟩
theorem sm_yes {l : List Int} (h : lvB l = true) : smL l = smLo l l.length ∧ smH l = smHi l l.length := by unfold smL smH; rw [h]; exact ⟨rfl, rfl⟩
set_option maxRecDepth 100000 in
set_option maxHeartbeats 1000000 in
theorem sums_impl (w : World) (v : Value) (l : List Int) (h : Rd w v l) :
    Calls Try.prog 19 #[v] w fun e w' => e = .returned (.tuple #[.int .i64 (smL l), .int .i64 (smH l), .bool (lvB l)]) ∧ Below w.heap.size w w' := by
  have HC := Lib.hid (areLevels_any w v l h)
  cases g0 : lvB l
  · obtain ⟨e1, e2⟩ := sm_no g0
    rw [e1, e2]
    rw [g0] at HC
    obtain ⟨A, cp, rfl⟩ := rd_sh h
    clear g0 e1 e2 h
    go_enter Try.func19, Try.ntmps19
    go_wp2_with fail
    refine HC.out.mono ?_; rintro e w' ⟨rfl, rfl⟩
    go_wp2_with fail
    go_ret3
    exact ⟨rfl, Below.refl _ _⟩
  · obtain ⟨e1, e2⟩ := sm_yes g0
    rw [e1, e2]
    rw [g0] at HC
    obtain ⟨hl, hx⟩ := lvB_parts g0
    have HS := Lib.hid (fun k h => smA_bd hx k h)
    have HV := Lib.hid hx
    obtain ⟨A, n, c, rfl, hn, -, -, r⟩ := h
    rw [hn] at hl HS ⊢
    have HN := Lib.hid hn
    have HR := Lib.hid r
    clear g0 e1 e2 hn r hx
    go_enter Try.func19, Try.ntmps19
    go_wp2_with fail
    refine HC.out.mono ?_; rintro e w' ⟨rfl, rfl⟩
    go_wp2_with fail
    go_loop [5, 6, 7, 15] (fun s lo hi i => ∃ k : Nat, k ≤ n ∧ i = .int .i64 k ∧ s = .int .i64 (smA l k) ∧ lo = .int .i64 (smLo l k) ∧ hi = .int .i64 (smHi l k)) (fun _ _ _ i => n - (intOf i).toNat)
    case atStart => exact ⟨0, Nat.zero_le _, rfl, rfl, rfl, rfl⟩
    case round =>
      obtain ⟨k, hk, rfl, rfl, rfl, rfl⟩ := hrel
      by_cases hlt : k < n
      · obtain ⟨b, o, rfl, hlt0, hc⟩ := HR.out (by omega)
        have hkl : k < l.length := by have := HN.out; omega
        have hc0 := hc k hkl
        have hk0 : (0 : Int) ≤ (k : Int) := by omega
        have hk1 : (k : Int) < (n : Int) := by omega
        have hb := HS.out k (by omega)
        have hv := HV.out l[k] (List.getElem_mem hkl)
        have HA := Lib.hid (smA_at hkl)
        have HL : Hid (smLo l (k + 1) = min (smLo l k) (smA l (k + 1))) := rfl
        have HH : Hid (smHi l (k + 1) = max (smHi l k) (smA l (k + 1))) := rfl
        rw [HA.out] at HL HH
        have w1 : IntKind.i64.wrap (smA l k + l[k]) = smA l k + l[k] := IntWalk.i64_in _ (by omega)
        clear hc
        generalize l[k] = x at *
        go_wp2_with fail
        first | go_round | (go_region; go_wp2_with fail; go_round)
        case rel => exact ⟨k + 1, by omega, by go_num, by rw [HA.out], by rw [HL.out]; congr 1; split <;> omega, by rw [HH.out]; congr 1; split <;> omega⟩
        case measure => simp [intOf]; omega
      · obtain rfl : k = n := by omega
        go_wp2_with fail
        go_ret3
        exact ⟨rfl, Below.refl _ _⟩
set_option maxRecDepth 100000 in
set_option maxHeartbeats 1000000 in
theorem sums_spec (w : World) (v : Value) (l : List Int) (h : Rd w v l) :
    Calls Try.prog 17 #[v] w fun e w' => e = .returned (.tuple #[.int .i64 (smL l), .int .i64 (smH l), .bool (lvB l)]) ∧ Below w.heap.size w w' := by
  have HC := Lib.hid (l10Is_any w v l h)
  cases g0 : lvB l
  · obtain ⟨e1, e2⟩ := sm_no g0
    rw [e1, e2]
    rw [g0] at HC
    obtain ⟨A, cp, rfl⟩ := rd_sh h
    clear g0 e1 e2 h
    go_enter Try.func17, Try.ntmps17
    go_wp2_with fail
    refine HC.out.mono ?_; rintro e w' ⟨rfl, rfl⟩
    go_wp2_with fail
    go_ret3
    exact ⟨rfl, Below.refl _ _⟩
  · obtain ⟨e1, e2⟩ := sm_yes g0
    rw [e1, e2]
    rw [g0] at HC
    obtain ⟨hl, hx⟩ := lvB_parts g0
    have HS := Lib.hid (fun k h => smA_bd hx k h)
    have HV := Lib.hid hx
    obtain ⟨A, n, c, rfl, hn, -, -, r⟩ := h
    rw [hn] at hl HS ⊢
    have HN := Lib.hid hn
    have HR := Lib.hid r
    clear g0 e1 e2 hn r hx
    go_enter Try.func17, Try.ntmps17
    go_wp2_with fail
    refine HC.out.mono ?_; rintro e w' ⟨rfl, rfl⟩
    go_wp2_with fail
    go_loop [5, 6, 7, 8] (fun lo hi s i => ∃ k : Nat, k ≤ n ∧ i = .int .i64 k ∧ s = .int .i64 (smA l k) ∧ lo = .int .i64 (smLo l k) ∧ hi = .int .i64 (smHi l k)) (fun _ _ _ i => n - (intOf i).toNat)
    case atStart => exact ⟨0, Nat.zero_le _, rfl, rfl, rfl, rfl⟩
    case round =>
      obtain ⟨k, hk, rfl, rfl, rfl, rfl⟩ := hrel
      by_cases hlt : k < n
      · obtain ⟨b, o, rfl, hlt0, hc⟩ := HR.out (by omega)
        have hkl : k < l.length := by have := HN.out; omega
        have hc0 := hc k hkl
        have hk0 : (0 : Int) ≤ (k : Int) := by omega
        have hk1 : (k : Int) < (n : Int) := by omega
        have hb := HS.out k (by omega)
        have hv := HV.out l[k] (List.getElem_mem hkl)
        have HA := Lib.hid (smA_at hkl)
        have HL : Hid (smLo l (k + 1) = min (smLo l k) (smA l (k + 1))) := rfl
        have HH : Hid (smHi l (k + 1) = max (smHi l k) (smA l (k + 1))) := rfl
        rw [HA.out] at HL HH
        have w1 : IntKind.i64.wrap (smA l k + l[k]) = smA l k + l[k] := IntWalk.i64_in _ (by omega)
        clear hc
        generalize l[k] = x at *
        go_wp2_with fail
        refine (lMin_any _ _ _).mono ?_; rintro e w' ⟨rfl, rfl⟩
        go_wp2_with fail
        refine (lMax_any _ _ _).mono ?_; rintro e w' ⟨rfl, rfl⟩
        go_wp2_with fail
        go_round
        case rel => exact ⟨k + 1, by omega, by go_num, by rw [HA.out], by rw [HL.out], by rw [HH.out]⟩
        case measure => simp [intOf]; omega
      · obtain rfl : k = n := by omega
        go_wp2_with fail
        go_ret3
        exact ⟨rfl, Below.refl _ _⟩
end Go.Proofs.Ytmhdjimdhcephaa
