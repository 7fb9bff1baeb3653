/- Both LongestSame. -/
import Derived.Test.YtcihogbkfpcfjabRunsI
import Derived.Test.YtcihogbkfpcfjabMax
import Derived.Test.YtcihogbkfpcfjabBtw
namespace Go.Proofs.Ytcihogbkfpcfjab
open Go Go.RowKit
set_option linter.unusedVariables false

/-- The greatest of some numbers, or 0. -/
def gr0 (l : List Int) : Int := l.foldl max 0
def lsV (l : List UInt8) : Int := gr0 (rl l)
theorem foldl_max_ge : ∀ (l : List Int) (a : Int), a ≤ l.foldl max a ∧ ∀ x ∈ l, x ≤ l.foldl max a
  | [], a => ⟨Int.le_refl _, fun x hx => by cases hx⟩
  | y :: l, a => by
    obtain ⟨h1, h2⟩ := foldl_max_ge l (max a y)
    refine ⟨by show a ≤ l.foldl max (max a y); omega, fun x hx => ?_⟩
    show x ≤ l.foldl max (max a y)
    rcases List.mem_cons.1 hx with rfl | h
    · omega
    · exact h2 x h
theorem foldl_max_mem : ∀ (l : List Int) (a : Int), l.foldl max a = a ∨ l.foldl max a ∈ l
  | [], a => .inl rfl
  | y :: l, a => by
    show l.foldl max (max a y) = a ∨ l.foldl max (max a y) ∈ y :: l
    rcases foldl_max_mem l (max a y) with h | h
    · rw [h]
      rcases Int.le_total a y with h' | h'
      · exact .inr (by rw [Int.max_eq_right h']; exact List.mem_cons_self ..)
      · exact .inl (Int.max_eq_left h')
    · exact .inr (List.mem_cons_of_mem _ h)
theorem gr0_isMax {l : List Int} {m : Int} (h : IsMax (l ++ [0]) m) : m = gr0 l := by
  obtain ⟨h1, h2⟩ := foldl_max_ge l 0
  have h3 := foldl_max_mem l 0
  unfold gr0
  have a : m ≤ l.foldl max 0 := by
    rcases List.mem_append.1 h.1 with h' | h'
    · exact h2 m h'
    · simp at h'; omega
  have b : l.foldl max 0 ≤ m := by
    rcases h3 with h' | h'
    · rw [h']; exact h.2 0 (List.mem_append_right _ (List.mem_cons_self ..))
    · exact h.2 _ (List.mem_append_left _ h')
  omega
theorem gr0_snoc (l : List Int) (x : Int) : gr0 (l ++ [x]) = max (gr0 l) x := by simp [gr0]
def lastR (l : List UInt8) (k : Nat) : Int := (runsK l k).getD ((runsK l k).length - 1) 0
theorem runs_new {l : List UInt8} {k : Nat} (h : k = 0 ∨ l[k]? ≠ l[k - 1]?) : lastR l (k + 1) = 1 ∧ gr0 (runsK l (k + 1)) = max (gr0 (runsK l k)) 1 := by
  unfold lastR
  rw [runsK_new l k h, gr0_snoc]
  exact ⟨by simp [List.getD], rfl⟩
theorem set_last (l : List Int) (h : 0 < l.length) (x : Int) : l.set (l.length - 1) x = l.dropLast ++ [x] := by
  have hne : l ≠ [] := by intro e; subst e; simp at h
  conv => lhs; rw [← List.dropLast_concat_getLast hne]
  rw [List.set_append, if_neg (by simp)]
  simp
theorem runs_old {l : List UInt8} {k : Nat} (h : ¬ (k = 0 ∨ l[k]? ≠ l[k - 1]?)) : lastR l (k + 1) = lastR l k + 1 ∧ gr0 (runsK l (k + 1)) = max (gr0 (runsK l k)) (lastR l k + 1) := by
  have hk : 0 < k := by rcases Nat.eq_zero_or_pos k with e | e; exact absurd (.inl e) h; exact e
  have hp := runsK_pos l k hk
  have hne : runsK l k ≠ [] := by intro e; rw [e] at hp; simp at hp
  have hl : lastR l k = (runsK l k).getLast hne := by
    unfold lastR
    rw [List.getD, List.getElem?_eq_getElem (by omega), List.getLast_eq_getElem]; rfl
  have e1 : runsK l (k + 1) = (runsK l k).dropLast ++ [lastR l k + 1] := by
    rw [runsK_old l k h, set_last _ hp]; rfl
  have e2 : runsK l k = (runsK l k).dropLast ++ [lastR l k] := by rw [hl, List.dropLast_concat_getLast]
  constructor
  · rw [show lastR l (k + 1) = (runsK l (k + 1)).getD ((runsK l (k + 1)).length - 1) 0 from rfl, e1]
    simp [List.getD]
  · rw [e1, gr0_snoc]
    conv => rhs; rw [e2, gr0_snoc]
    have : max (gr0 (runsK l k).dropLast) (lastR l k + 1) = max (max (gr0 (runsK l k).dropLast) (lastR l k)) (lastR l k + 1) := by omega
    rw [this]
theorem lastR_bd (l : List UInt8) (k : Nat) : 0 ≤ lastR l k ∧ lastR l k ≤ k := runsK_bd l k _
theorem gr0_bd (l : List UInt8) (k : Nat) : 0 ≤ gr0 (runsK l k) := (foldl_max_ge _ _).1

set_option maxRecDepth 100000 in
set_option maxHeartbeats 1000000 in
theorem longest_impl (w : World) (s : ByteArray) (hs : s.size ≤ maxLen) :
    Calls Try.prog 40 #[.string s] w fun e w' => e = .returned (.tuple #[.int .i64 (lsV s.data.toList), .bool (isB s.data.toList)]) ∧ Below w.heap.size w w' := by
  obtain ⟨i0, hi, hz0, hz1, hz2⟩ := info_parts Try.infoInt
  have HR := Lib.hid (fun W => runLengths_impl s W hs)
  have hle := rl_len s.data.toList
  cases hB : isB s.data.toList
  · have HV : Hid (lsV s.data.toList = 0) := by show _ = _; unfold lsV rl; rw [if_neg (by rw [hB]; decide)]; rfl
    rw [hB] at HR
    clear hB
    go_enter Try.func40, Try.ntmps40
    go_wp2_with fail
    refine (HR.out _).mono ?_; rintro e w1 ⟨v, rfl, ho, hb⟩
    have HB1 := Lib.hid hb
    clear ho hb
    go_wp2_with fail
    go_ret2
    exact ⟨ret_ib (by rw [HV.out]) rfl, HB1.out⟩
  · rw [hB] at HR
    have HV : Hid (lsV s.data.toList = gr0 (rl s.data.toList)) := rfl
    generalize lsV s.data.toList = V at *
    generalize rl s.data.toList = R at *
    clear hB
    go_enter Try.func40, Try.ntmps40
    go_wp2_with fail
    refine (HR.out _).mono ?_; rintro e w1 ⟨v, rfl, ho, hb⟩
    unfold Own at ho
    go_wp2_with (at_builtin; refine wpList_append_lies _ rfl _ _ 22 rfl w.heap.size 2 i0 (.int .i64 0) 1 8 Try.underlying22 hi hz0 hz1 hz2 rfl (by decide) _ _ _ rfl (ho.alloc _) ⟨w1.heap.size, 0, none⟩ 1 1 [.int .i64 0] rfl rfl ?c1 ?c2 (by decide) ?c3 ?c4 ?c5 (w1.heap.size + 1) (by simp) ?_)
    case c1 => exact c1_int _ _ _
    case c2 => intro u hu; simp at hu; subst hu; rfl
    case c3 => unfold maxLen; omega
    case c4 => omega
    case c5 => have := hb.size; simp; omega
    intro g cap w2 hown hgrow hat hlt
    have hb2 := below_cons hb hb.size ho hgrow
    have ho2 : Own w2 w.heap.size (.slice (some ⟨g, 0, none⟩) (R.length + 1) cap) (R ++ [0]) := by unfold Own; rw [List.length_append, ← intVals_snoc]; exact hown
    have HB2 := Lib.hid hb2
    have HMX := Lib.hid (max_any w2 _ (R ++ [0]) ho2.rd (by simp))
    clear hb ho hown hgrow hat hlt hb2 ho2
    go_wp2_with fail
    refine HMX.out.mono ?_; rintro e w3 ⟨m, rfl, hm, rfl⟩
    have HM : Hid (m = gr0 R) := gr0_isMax hm
    clear hm
    go_wp2_with fail
    go_ret2
    exact ⟨ret_ib (by rw [HM.out, HV.out]) rfl, HB2.out⟩
end Go.Proofs.Ytcihogbkfpcfjab
