/- Both LongestSame. -/
import Derived.Test.YtjmaapbodacggaaRlC
import Derived.Test.YtjmaapbodacggaaMax
import Derived.Test.YtjmaapbodacggaaBtw
namespace Go.Proofs.Ytjmaapbodacggaa
open Go Go.RowKit
set_option linter.unusedVariables false

/-- The greatest of some numbers, or 0. -/
def gr0 (l : List Int) : Int := l.foldl max 0
def lsV (l : List UInt8) : Int := gr0 (rl l)
theorem foldl_max_ge : ∀ (l : List Int) (a : Int), a ≤ l.foldl max a ∧ ∀ x ∈ l, x ≤ l.foldl max a
  | [], a => ⟨Int.le_refl _, fun x hx => by cases hx⟩
  | y :: l, a => by
    obtain ⟨h1, h2⟩ := foldl_max_ge l (max a y)
    refine ⟨by show a ≤ l.foldl max (max a y); omega, fun x hx => ?_⟩
    show x ≤ l.foldl max (max a y)
    rcases List.mem_cons.1 hx with rfl | h
    · omega
    · exact h2 x h
theorem foldl_max_mem : ∀ (l : List Int) (a : Int), l.foldl max a = a ∨ l.foldl max a ∈ l
  | [], a => .inl rfl
  | y :: l, a => by
    show l.foldl max (max a y) = a ∨ l.foldl max (max a y) ∈ y :: l
    rcases foldl_max_mem l (max a y) with h | h
    · rw [h]
      rcases Int.le_total a y with h' | h'
      · exact .inr (by rw [Int.max_eq_right h']; exact List.mem_cons_self ..)
      · exact .inl (Int.max_eq_left h')
    · exact .inr (List.mem_cons_of_mem _ h)
theorem gr0_isMax {l : List Int} {m : Int} (h : IsMax (l ++ [0]) m) : m = gr0 l := by
  obtain ⟨h1, h2⟩ := foldl_max_ge l 0
  have h3 := foldl_max_mem l 0
  unfold gr0
  have a : m ≤ l.foldl max 0 := by
    rcases List.mem_append.1 h.1 with h' | h'
    · exact h2 m h'
    · simp at h'; omega
  have b : l.foldl max 0 ≤ m := by
    rcases h3 with h' | h'
    · rw [h']; exact h.2 0 (List.mem_append_right _ (List.mem_cons_self ..))
    · exact h.2 _ (List.mem_append_left _ h')
  omega
theorem gr0_snoc (l : List Int) (x : Int) : gr0 (l ++ [x]) = max (gr0 l) x := by simp [gr0]
def lastR (l : List UInt8) (k : Nat) : Int := (runsK l k).getD ((runsK l k).length - 1) 0
theorem runs_new {l : List UInt8} {k : Nat} (h : k = 0 ∨ l[k]? ≠ l[k - 1]?) : lastR l (k + 1) = 1 ∧ gr0 (runsK l (k + 1)) = max (gr0 (runsK l k)) 1 := by
  unfold lastR
  rw [runsK_new l k h, gr0_snoc]
  exact ⟨by simp [List.getD], rfl⟩
theorem set_last (l : List Int) (h : 0 < l.length) (x : Int) : l.set (l.length - 1) x = l.dropLast ++ [x] := by
  have hne : l ≠ [] := by intro e; subst e; simp at h
  conv => lhs; rw [← List.dropLast_concat_getLast hne]
  rw [List.set_append, if_neg (by simp)]
  simp
theorem runs_old {l : List UInt8} {k : Nat} (h : ¬ (k = 0 ∨ l[k]? ≠ l[k - 1]?)) : lastR l (k + 1) = lastR l k + 1 ∧ gr0 (runsK l (k + 1)) = max (gr0 (runsK l k)) (lastR l k + 1) := by
  have hk : 0 < k := by rcases Nat.eq_zero_or_pos k with e | e; exact absurd (.inl e) h; exact e
  have hp := runsK_pos l k hk
  have hne : runsK l k ≠ [] := by intro e; rw [e] at hp; simp at hp
  have hl : lastR l k = (runsK l k).getLast hne := by
    unfold lastR
    rw [List.getD, List.getElem?_eq_getElem (by omega), List.getLast_eq_getElem]; rfl
  have e1 : runsK l (k + 1) = (runsK l k).dropLast ++ [lastR l k + 1] := by
    rw [runsK_old l k h, set_last _ hp]; rfl
  have e2 : runsK l k = (runsK l k).dropLast ++ [lastR l k] := by rw [hl, List.dropLast_concat_getLast]
  constructor
  · rw [show lastR l (k + 1) = (runsK l (k + 1)).getD ((runsK l (k + 1)).length - 1) 0 from rfl, e1]
    simp [List.getD]
  · rw [e1, gr0_snoc]
    conv => rhs; rw [e2, gr0_snoc]
    have : max (gr0 (runsK l k).dropLast) (lastR l k + 1) = max (max (gr0 (runsK l k).dropLast) (lastR l k)) (lastR l k + 1) := by omega
    rw [this]
theorem lastR_bd (l : List UInt8) (k : Nat) : 0 ≤ lastR l k ∧ lastR l k ≤ k := runsK_bd l k _
theorem gr0_bd (l : List UInt8) (k : Nat) : 0 ≤ gr0 (runsK l k) := (foldl_max_ge _ _).1

set_option maxRecDepth 100000 in
set_option maxHeartbeats 1000000 in
theorem longest_spec (w : World) (s : ByteArray) (hs : s.size ≤ maxLen) :
    Calls Try.prog 20 #[.string s] w fun e w' => e = .returned (.tuple #[.int .i64 (lsV s.data.toList), .bool (isB s.data.toList)]) ∧ Below w.heap.size w w' := by
  have HI := Lib.hid (fun W => l01Bits_any s W hs)
  cases hB : isB s.data.toList
  · have HV : Hid (lsV s.data.toList = 0) := by show _ = _; unfold lsV rl; rw [if_neg (by rw [hB]; decide)]; rfl
    rw [hB] at HI
    clear hB
    go_enter Try.func20, Try.ntmps20
    go_wp2_with fail
    refine (HI.out _).mono ?_; rintro e w' ⟨rfl, rfl⟩
    go_wp2_with fail
    go_ret2
    exact ⟨ret_ib (by rw [HV.out]) rfl, Below.refl _ _⟩
  · have hsz := isB_len hB
    have HV : Hid (lsV s.data.toList = gr0 (runsK s.data.toList s.size)) := by show _ = _; unfold lsV rl; rw [if_pos hB]; simp
    have HRN := Lib.hid (fun k h => runs_new (l := s.data.toList) (k := k) h)
    have HRO := Lib.hid (fun k h => runs_old (l := s.data.toList) (k := k) h)
    have HLB := Lib.hid (lastR_bd s.data.toList)
    have HEL : Hid (∀ k (h : k < s.size), s.data.toList[k]? = some s[k]) := by
      show ∀ _ _, _
      intro k h
      rw [List.getElem?_eq_getElem (by simpa using h)]; rfl
    rw [hB] at HI
    clear hB hs
    go_enter Try.func20, Try.ntmps20
    go_wp2_with fail
    refine (HI.out _).mono ?_; rintro e w' ⟨rfl, rfl⟩
    go_wp2_with fail
    go_loopw [4, 5, 6] (fun m r i wr => ∃ k q : Nat, k ≤ s.size ∧ i = .int .i64 k ∧ m = .int .i64 (gr0 (runsK s.data.toList k)) ∧ r = .int .i64 (lastR s.data.toList k) ∧ wr = w.drewN q) (fun _ _ i _ => s.size - (intOf i).toNat)
    case atStart => exact ⟨0, 0, Nat.zero_le _, rfl, rfl, rfl, rfl⟩
    case round =>
      obtain ⟨k, q, hk, rfl, rfl, rfl, rfl⟩ := hrel
      by_cases hlt : k < s.size
      · have hbd := HLB.out k
        have hk0 : (0 : Int) ≤ (k : Int) := by omega
        have hk1 : (k : Int) < (s.size : Int) := by omega
        have hwr : IntKind.i64.wrap (lastR s.data.toList k + 1) = lastR s.data.toList k + 1 := IntWalk.i64_in _ (by omega)
        by_cases hz : k = 0
        · subst hz
          have hrn := HRN.out 0 (.inl rfl)
          have HR := Lib.hid hrn
          clear hrn hbd
          have hl0 : lastR s.data.toList 0 = 0 := rfl
          generalize lastR s.data.toList 0 = r0 at *
          subst hl0
          generalize gr0 (runsK s.data.toList 0) = m0 at *
          go_wp2_with fail
          go_quiet (fail)
          go_wp2_with fail
          refine (l00Max_any _ _ _).mono ?_; rintro e w' ⟨rfl, rfl⟩
          go_wp2_with fail
          go_roundw
          case rel => exact ⟨1, _, by omega, by go_num, by rw [HR.out.2], by rw [HR.out.1], rfl⟩
          case measure => simp [intOf]; omega
        · have hkn : 0 < k := by omega
          have hk3 : (0 : Int) < (k : Int) := by omega
          have hw1 : IntKind.i64.wrap ((k : Int) - 1) = (k : Int) - 1 := IntWalk.i64_in _ (by omega)
          have hk4 : (0 : Int) ≤ (k : Int) - 1 := by omega
          have hk5 : (k : Int) - 1 < (s.size : Int) := by omega
          have hk6 : ((k : Int) - 1).toNat = k - 1 := by omega
          have hkd : decide (0 < k) = true := decide_eq_true hkn
          have e1 := HEL.out k hlt
          have e2 := HEL.out (k - 1) (by omega)
          obtain ⟨X, hX⟩ : ∃ X : Int, (s[k].toNat : Int) = X := ⟨_, rfl⟩
          obtain ⟨Y, hY⟩ : ∃ Y : Int, ((s[k - 1]'(by omega)).toNat : Int) = Y := ⟨_, rfl⟩
          by_cases hx : X = Y
          · have hold : ¬ (k = 0 ∨ s.data.toList[k]? ≠ s.data.toList[k - 1]?) := by
              rintro (h | h)
              · omega
              · apply h
                rw [e1, e2, show s[k] = s[k - 1]'(by omega) from UInt8.toNat_inj.1 (by omega)]
            have HR := Lib.hid (HRO.out k hold)
            have hne : (X != Y) = false := bne_f hx
            clear hold e1 e2 hx
            generalize lastR s.data.toList k = r0 at *
            generalize gr0 (runsK s.data.toList k) = m0 at *
            go_wp2_with fail
            go_quiet (fail)
            go_wp2_with fail
            refine (l00Max_any _ _ _).mono ?_; rintro e w' ⟨rfl, rfl⟩
            go_wp2_with fail
            go_roundw
            case rel => exact ⟨k + 1, _, by omega, by go_num, by rw [HR.out.2], by rw [HR.out.1], rfl⟩
            case measure => simp [intOf]; omega
          · have hnew : k = 0 ∨ s.data.toList[k]? ≠ s.data.toList[k - 1]? := by
              refine .inr (fun h => hx ?_)
              rw [e1, e2] at h
              injection h with h
              rw [← hX, ← hY, h]
            have HR := Lib.hid (HRN.out k hnew)
            have hne : (X != Y) = true := bne_t hx
            clear hnew e1 e2 hx
            generalize lastR s.data.toList k = r0 at *
            generalize gr0 (runsK s.data.toList k) = m0 at *
            go_wp2_with fail
            go_quiet (fail)
            go_wp2_with fail
            refine (l00Max_any _ _ _).mono ?_; rintro e w' ⟨rfl, rfl⟩
            go_wp2_with fail
            go_roundw
            case rel => exact ⟨k + 1, _, by omega, by go_num, by rw [HR.out.2], by rw [HR.out.1], rfl⟩
            case measure => simp [intOf]; omega
      · obtain rfl : k = s.size := by omega
        have HX := HV.out
        generalize gr0 (runsK s.data.toList s.size) = m0 at *
        go_wp2_with fail
        go_ret2
        exact ⟨ret_ib (by rw [HV.out]) rfl, below_drewN (Below.refl _ _) q⟩

set_option maxRecDepth 100000 in
set_option maxHeartbeats 1000000 in
theorem longest_impl (w : World) (s : ByteArray) (hs : s.size ≤ maxLen) :
    Calls Try.prog 21 #[.string s] w fun e w' => e = .returned (.tuple #[.int .i64 (lsV s.data.toList), .bool (isB s.data.toList)]) ∧ Below w.heap.size w w' := by
  obtain ⟨i0, hi, hz0, hz1, hz2⟩ := info_parts Try.infoInt
  have HR := Lib.hid (fun W => runLengths_impl s W hs)
  have hle := rl_len s.data.toList
  cases hB : isB s.data.toList
  · have HV : Hid (lsV s.data.toList = 0) := by show _ = _; unfold lsV rl; rw [if_neg (by rw [hB]; decide)]; rfl
    rw [hB] at HR
    clear hB
    go_enter Try.func21, Try.ntmps21
    go_wp2_with fail
    refine (HR.out _).mono ?_; rintro e w1 ⟨v, rfl, ho, hb⟩
    have HB1 := Lib.hid hb
    clear ho hb
    go_wp2_with fail
    go_ret2
    exact ⟨ret_ib (by rw [HV.out]) rfl, HB1.out⟩
  · rw [hB] at HR
    have HV : Hid (lsV s.data.toList = gr0 (rl s.data.toList)) := rfl
    generalize lsV s.data.toList = V at *
    generalize rl s.data.toList = R at *
    clear hB
    go_enter Try.func21, Try.ntmps21
    go_wp2_with fail
    refine (HR.out _).mono ?_; rintro e w1 ⟨v, rfl, ho, hb⟩
    unfold Own at ho
    go_wp2_with (at_builtin; refine wpList_append_lies _ rfl _ _ 22 rfl w.heap.size 2 i0 (.int .i64 0) 1 8 Try.underlying22 hi hz0 hz1 hz2 rfl (by decide) _ _ _ rfl (ho.alloc _) ⟨w1.heap.size, 0, none⟩ 1 1 [.int .i64 0] rfl rfl ?c1 ?c2 (by decide) ?c3 ?c4 ?c5 (w1.heap.size + 1) (by simp) ?_)
    case c1 => exact c1_int _ _ _
    case c2 => intro u hu; simp at hu; subst hu; rfl
    case c3 => unfold maxLen; omega
    case c4 => omega
    case c5 => have := hb.size; simp; omega
    intro g cap w2 hown hgrow hat hlt
    have hb2 := below_cons hb hb.size ho hgrow
    have ho2 : Own w2 w.heap.size (.slice (some ⟨g, 0, none⟩) (R.length + 1) cap) (R ++ [0]) := by unfold Own; rw [List.length_append, ← intVals_snoc]; exact hown
    have HB2 := Lib.hid hb2
    have HMX := Lib.hid (max_any w2 _ (R ++ [0]) ho2.rd (by simp))
    clear hb ho hown hgrow hat hlt hb2 ho2
    go_wp2_with fail
    refine HMX.out.mono ?_; rintro e w3 ⟨m, rfl, hm, rfl⟩
    have HM : Hid (m = gr0 R) := gr0_isMax hm
    clear hm
    go_wp2_with fail
    go_ret2
    exact ⟨ret_ib (by rw [HM.out, HV.out]) rfl, HB2.out⟩
end Go.Proofs.Ytjmaapbodacggaa
