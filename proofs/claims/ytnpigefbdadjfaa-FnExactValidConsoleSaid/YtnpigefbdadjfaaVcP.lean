/- Valid consoles: plain; the program's isIncreasing over texts, slices.ContainsFunc over names and bits. -/
import Derived.Test.YtnpigefbdadjfaaName
import Derived.Test.YtnpigefbdadjfaaBits
import Derived.Test.YtnpigefbdadjfaaRs
import Derived.Test.YtnpigefbdadjfaaBk
import Derived.Test.YtnpigefbdadjfaaBtw
import Derived.Lib.Hide
import Derived.IntWalk
namespace Go.Proofs.Ytnpigefbdadjfaa
open Go Go.RowKit
set_option linter.unusedVariables false

theorem less_tri : ∀ (a b : List UInt8), (Op.bytesLess b a || b == a) = !(Op.bytesLess a b)
  | [], [] => rfl
  | [], b :: y => by simp [Op.bytesLess]
  | a :: x, [] => by simp [Op.bytesLess]
  | a :: x, b :: y => by
    have ih := less_tri x y
    show ((decide (b < a) || (b == a && Op.bytesLess y x)) || (b :: y) == (a :: x)) = !(decide (a < b) || (a == b && Op.bytesLess x y))
    rcases Nat.lt_trichotomy a.toNat b.toNat with h | h | h
    · have h1 : a < b := h
      have h2 : ¬ b < a := by rw [UInt8.lt_iff_toNat_lt]; omega
      have h3 : (b == a) = false := by simp; intro e; rw [e] at h; omega
      simp [h1, h2, h3]
    · have e : a = b := UInt8.toNat_inj.1 h
      subst e
      have h2 : ¬ a < a := by rw [UInt8.lt_iff_toNat_lt]; omega
      simp only [h2, decide_false, Bool.false_or, beq_self_eq_true, Bool.true_and, List.cons_beq_cons]
      exact ih
    · have h1 : b < a := h
      have h2 : ¬ a < b := by rw [UInt8.lt_iff_toNat_lt]; omega
      have h3 : (a == b) = false := by simp; intro e; rw [e] at h; omega
      simp [h1, h2, h3]
/-- A text comes before another one. -/
def lsB (a b : ByteArray) : Bool := Op.bytesLess a.toList b.toList
theorem run_leq {P : Program} (a b : ByteArray) (W : World) : (Op.stringOp .leq b a).run P W = .ok (.bool (!lsB a b)) W := by
  have h : (Op.stringOp .leq b a).run P W = .ok (.bool (Op.bytesLess b.toList a.toList || b.toList == a.toList)) W := rfl
  rw [h, less_tri]; rfl
theorem run_geq {P : Program} (a b : ByteArray) (W : World) : (Op.stringOp .geq a b).run P W = .ok (.bool (!lsB a b)) W := rfl
theorem run_leqB {P : Program} (t : TypeId) (a b : ByteArray) (W : World) : (binOp .leq t (.string b) (.string a)).run P W = .ok (.bool (!lsB a b)) W := run_leq a b W
theorem run_geqB {P : Program} (t : TypeId) (a b : ByteArray) (W : World) : (binOp .geq t (.string a) (.string b)).run P W = .ok (.bool (!lsB a b)) W := rfl
def incN (ns : List ByteArray) : Nat → Bool
  | 0 => true
  | k + 1 => incN ns k && (decide (k = 0) || lsB (ns.getD (k - 1) ByteArray.empty) (ns.getD k ByteArray.empty))
theorem incN_all {ns : List ByteArray} : ∀ {m k : Nat}, incN ns m = true → k ≤ m → incN ns k = true
  | 0, k, h, hk => by obtain rfl : k = 0 := by omega
                      rfl
  | m + 1, k, h, hk => by
    unfold incN at h
    rw [Bool.and_eq_true_iff] at h
    by_cases e : k = m + 1
    · subst e; unfold incN; rw [h.1, h.2]; rfl
    · exact incN_all h.1 (by omega)
theorem incN_no {ns : List ByteArray} {k m : Nat} (h0 : 0 < k) (hk : k < m) (h : lsB (ns.getD (k - 1) ByteArray.empty) (ns.getD k ByteArray.empty) = false) : incN ns m = false := by
  rw [Bool.eq_false_iff]
  intro e
  have := incN_all e (show k + 1 ≤ m by omega)
  unfold incN at this
  rw [h, decide_eq_false (by omega)] at this
  simp at this
theorem incN_yes {ns : List ByteArray} {k : Nat} (h1 : incN ns k = true) (h : k = 0 ∨ lsB (ns.getD (k - 1) ByteArray.empty) (ns.getD k ByteArray.empty) = true) : incN ns (k + 1) = true := by
  unfold incN
  rw [h1]
  rcases h with h | h
  · rw [decide_eq_true h]; rfl
  · rw [h]; simp
def incS (ns : List ByteArray) : Bool := incN ns ns.length
def nmX (s : ByteArray) : Bool := !isNm s.data.toList
def btX (s : ByteArray) : Bool := !isB s.data.toList
/-- Whether names and lines are a console. -/
def vcB (ns ls : List ByteArray) : Bool := decide (ns.length ≤ 6) && (decide (ns.length = ls.length) && (incS ns && (!ns.any nmX && !ls.any btX)))
theorem vc_len {ns ls : List ByteArray} (h : ¬ (ns.length ≤ 6 ∧ ns.length = ls.length)) : vcB ns ls = false := by
  unfold vcB
  by_cases h1 : ns.length ≤ 6
  · rw [decide_eq_false (fun e => h ⟨h1, e⟩)]; simp
  · rw [decide_eq_false h1]; rfl
theorem anyX_yes (f : ByteArray → Bool) (ps : List ByteArray) (k : Nat) (h : k < ps.length) (hf : f (ps.getD k ByteArray.empty) = true) : ps.any f = true := by
  rw [List.any_eq_true]
  rw [List.getD, List.getElem?_eq_getElem h] at hf
  exact ⟨_, List.getElem_mem h, hf⟩
theorem anyX_no (f : ByteArray → Bool) (ps : List ByteArray) (h : ∀ k, k < ps.length → f (ps.getD k ByteArray.empty) = false) : ps.any f = false := by
  rw [List.any_eq_false]
  intro x hx
  obtain ⟨k, hk, rfl⟩ := List.getElem_of_mem hx
  have := h k hk
  rw [List.getD, List.getElem?_eq_getElem hk] at this
  rw [show f ps[k] = false from this]; decide
theorem vc_nm {ns ls : List ByteArray} {k : Nat} (hk : k < ns.length) (h : isNm (ns.getD k ByteArray.empty).data.toList = false) : vcB ns ls = false := by
  unfold vcB
  rw [anyX_yes nmX ns k hk (by unfold nmX; rw [h]; rfl)]; simp
theorem vc_inc {ns ls : List ByteArray} {k : Nat} (hk : k < ns.length) (h0 : 0 < k) (h : lsB (ns.getD (k - 1) ByteArray.empty) (ns.getD k ByteArray.empty) = false) : vcB ns ls = false := by
  unfold vcB incS
  rw [incN_no h0 hk h]; simp
theorem vc_bt {ns ls : List ByteArray} {k : Nat} (hk : k < ls.length) (h : isB (ls.getD k ByteArray.empty).data.toList = false) : vcB ns ls = false := by
  unfold vcB
  rw [anyX_yes btX ls k hk (by unfold btX; rw [h]; rfl)]; simp
theorem vc_yes {ns ls : List ByteArray} (h6 : ns.length ≤ 6) (he : ns.length = ls.length) (hi : incN ns ns.length = true) (h : ∀ k, k < ns.length → isNm (ns.getD k ByteArray.empty).data.toList = true ∧ isB (ls.getD k ByteArray.empty).data.toList = true) : vcB ns ls = true := by
  unfold vcB incS
  rw [decide_eq_true h6, decide_eq_true he, hi, anyX_no nmX ns (fun k hk => by unfold nmX; rw [(h k hk).1]; rfl), anyX_no btX ls (fun k hk => by unfold btX; rw [(h k (by omega)).2]; rfl)]; rfl

theorem rds_at {w : World} {v : Value} {l : List ByteArray} (h : RdS w v l) : ∃ A c, v = .slice A l.length c ∧ ∀ k, k < l.length → ∃ b o, A = some ⟨b, o, none⟩ ∧ b < w.heap.size ∧ ∀ j, j < l.length → w.cell? ⟨b, o + j, none⟩ = some (.string (l.getD j ByteArray.empty)) := by
  obtain ⟨A, n, c, rfl, hn, -, -, hr⟩ := h
  subst hn
  refine ⟨A, c, rfl, fun k hk => ?_⟩
  obtain ⟨b, o, e, hb, hc⟩ := hr (by omega)
  refine ⟨b, o, e, hb, fun j hj => ?_⟩
  rw [hc j hj, List.getD, List.getElem?_eq_getElem hj]; rfl

theorem isNoName_any (s : ByteArray) (w : World) (hs : s.size ≤ maxLen) :
    Calls Try.prog 60 #[.string s] w fun e w' => e = .returned (.bool (nmX s)) ∧ Below w.heap.size w w' := by
  have H := Lib.hid (isName_impl s w hs)
  unfold nmX
  generalize isNm s.data.toList = b at *
  go_enter Try.func60, Try.ntmps60
  go_wp2_with fail
  refine H.out.mono ?_; rintro e w1 ⟨rfl, hb⟩
  have HB := Lib.hid hb
  clear hb
  go_wp2_with fail
  go_ret
  exact ⟨rfl, HB.out⟩
theorem areNoBits_any (s : ByteArray) (w : World) (hs : s.size ≤ maxLen) :
    Calls Try.prog 61 #[.string s] w fun e w' => e = .returned (.bool (btX s)) ∧ Below w.heap.size w w' := by
  have H := Lib.hid (isBits_any s w hs)
  unfold btX
  generalize isB s.data.toList = b at *
  go_enter Try.func61, Try.ntmps61
  go_wp2_with fail
  refine H.out.mono ?_; rintro e w1 ⟨rfl, hb⟩
  have HB := Lib.hid hb
  clear hb
  go_wp2_with fail
  go_ret
  exact ⟨rfl, HB.out⟩
def VcPost (w : World) (R : Bool) (e : Ending) (w' : World) : Prop := ∃ r : Int, e = .returned (.int .i64 r) ∧ decide (0 ≤ r) = R ∧ -1 ≤ r ∧ r ≤ 4000000 ∧ Below w.heap.size w w'
theorem anyV_take (f : ByteArray → Bool) (ps : List ByteArray) (k : Nat) (h : k < ps.length) : (ps.take (k + 1)).any f = ((ps.take k).any f || f (ps.getD k ByteArray.empty)) := by
  rw [List.take_succ_eq_append_getElem h, List.any_append, List.getD, List.getElem?_eq_getElem h]; simp
set_option maxHeartbeats 1600000 in
theorem index_isNoName (W : World) (v : Value) (ns : List ByteArray) (hr : RdS W v ns) (hn : ns.length ≤ 4000000) (hm : ∀ s ∈ ns, s.size ≤ maxLen) :
    Calls Try.prog 81 #[v, .func (.func 60) #[] #[]] W (VcPost W (ns.any nmX)) := by
  obtain ⟨A, c, rfl, -⟩ := rds_at hr
  have HR := Lib.hid hr
  have HC := Lib.hid (fun (z : ByteArray) W (hz : z.size ≤ maxLen) => isNoName_any z W hz)
  have HM : Hid (∀ k, k < ns.length → (ns.getD k ByteArray.empty).size ≤ maxLen) := by
    show ∀ k, _
    intro k hk
    rw [List.getD, List.getElem?_eq_getElem hk]; exact hm _ (List.getElem_mem hk)
  have HS := Lib.hid (fun k (hk : k < ns.length) => anyV_take nmX ns k hk)
  have HY := Lib.hid (fun k (hk : k < ns.length) hf => anyX_yes nmX ns k hk hf)
  have HE : Hid ((ns.take ns.length).any nmX = ns.any nmX) := by show _ = _; rw [List.take_length]
  clear hr hm
  generalize nmX = f at *
  go_enter Try.func81, Try.ntmps81
  go_wp2_with fail
  go_loopw [8] (fun i wr => ∃ k : Nat, k ≤ ns.length ∧ i = .int .i64 k ∧ Below W.heap.size W wr ∧ (ns.take k).any f = false) (fun i _ => ns.length - (intOf i).toNat)
  case atStart => exact ⟨0, Nat.zero_le _, rfl, Below.refl _ _, rfl⟩
  case round =>
    obtain ⟨k, hk, rfl, hb, hff⟩ := hrel
    have HB := Lib.hid hb
    have HK := Lib.hid (HR.out.keep hb)
    have HF0 := Lib.hid hff
    clear hb hff
    by_cases hlt : k < ns.length
    · obtain ⟨A', c', e, hat⟩ := rds_at HK.out
      cases e
      obtain ⟨b, o, rfl, hgl, hc⟩ := hat k hlt
      have hc0 := hc k hlt
      have hk0 : (0 : Int) ≤ (k : Int) := by omega
      have hk1 : (k : Int) < (ns.length : Int) := by omega
      have HCC := Lib.hid (HC.out (ns.getD k ByteArray.empty) wr (HM.out k hlt))
      have hsk := HS.out k hlt
      have HYK := Lib.hid (HY.out k hlt)
      clear hc hat
      generalize ns.getD k ByteArray.empty = z at *
      cases hz : f z
      · have HX : Hid ((ns.take (k + 1)).any f = false) := by show _ = _; rw [hsk, HF0.out, hz]; rfl
        rw [hz] at HCC
        clear hz hsk
        go_wp2_with fail
        refine HCC.out.mono ?_; rintro e w1 ⟨rfl, hb1⟩
        have HB1 := Lib.hid (HB.out.trans (hb1.mono HB.out.size))
        clear hb1 HB hc0
        go_wp2_with fail
        go_roundw
        case rel => exact ⟨k + 1, by omega, by go_num, HB1.out, HX.out⟩
        case measure => simp [intOf]; omega
      · have HX : Hid (ns.any f = true) := HYK.out hz
        rw [hz] at HCC
        clear hz hsk
        go_wp2_with fail
        refine HCC.out.mono ?_; rintro e w1 ⟨rfl, hb1⟩
        have HB1 := Lib.hid (HB.out.trans (hb1.mono HB.out.size))
        clear hb1 HB hc0
        go_wp2_with fail
        go_ret
        exact ⟨k, rfl, by rw [HX.out]; exact decide_eq_true hk0, by omega, by omega, HB1.out⟩
    · obtain rfl : k = ns.length := by omega
      have HX : Hid (ns.any f = false) := by show _ = _; rw [← HE.out]; exact HF0.out
      go_wp2_with fail
      go_ret
      exact ⟨-1, rfl, by rw [HX.out]; rfl, by decide, by decide, HB.out⟩
theorem contains_isNoName (W : World) (v : Value) (ns : List ByteArray) (hr : RdS W v ns) (hn : ns.length ≤ 4000000) (hm : ∀ s ∈ ns, s.size ≤ maxLen) :
    Calls Try.prog 59 #[v, .func (.func 60) #[] #[]] W fun e w' => e = .returned (.bool (ns.any nmX)) ∧ Below W.heap.size W w' := by
  have HC := Lib.hid (index_isNoName W v ns hr hn hm)
  obtain ⟨A, c, rfl, -⟩ := rds_at hr
  clear hr hm
  generalize ns.any nmX = b at *
  go_enter Try.func59, Try.ntmps59
  go_wp2_with fail
  refine HC.out.mono ?_; rintro e w1 ⟨r, rfl, hr, hr1, hr2, hb1⟩
  have HB1 := Lib.hid hb1
  have HRR := Lib.hid hr
  clear hb1 hr
  go_wp2_with fail
  go_ret
  exact ⟨ret_bool (by rw [← HRR.out]), HB1.out⟩
set_option maxHeartbeats 1600000 in
theorem index_areNoBits (W : World) (v : Value) (ns : List ByteArray) (hr : RdS W v ns) (hn : ns.length ≤ 4000000) (hm : ∀ s ∈ ns, s.size ≤ maxLen) :
    Calls Try.prog 81 #[v, .func (.func 61) #[] #[]] W (VcPost W (ns.any btX)) := by
  obtain ⟨A, c, rfl, -⟩ := rds_at hr
  have HR := Lib.hid hr
  have HC := Lib.hid (fun (z : ByteArray) W (hz : z.size ≤ maxLen) => areNoBits_any z W hz)
  have HM : Hid (∀ k, k < ns.length → (ns.getD k ByteArray.empty).size ≤ maxLen) := by
    show ∀ k, _
    intro k hk
    rw [List.getD, List.getElem?_eq_getElem hk]; exact hm _ (List.getElem_mem hk)
  have HS := Lib.hid (fun k (hk : k < ns.length) => anyV_take btX ns k hk)
  have HY := Lib.hid (fun k (hk : k < ns.length) hf => anyX_yes btX ns k hk hf)
  have HE : Hid ((ns.take ns.length).any btX = ns.any btX) := by show _ = _; rw [List.take_length]
  clear hr hm
  generalize btX = f at *
  go_enter Try.func81, Try.ntmps81
  go_wp2_with fail
  go_loopw [8] (fun i wr => ∃ k : Nat, k ≤ ns.length ∧ i = .int .i64 k ∧ Below W.heap.size W wr ∧ (ns.take k).any f = false) (fun i _ => ns.length - (intOf i).toNat)
  case atStart => exact ⟨0, Nat.zero_le _, rfl, Below.refl _ _, rfl⟩
  case round =>
    obtain ⟨k, hk, rfl, hb, hff⟩ := hrel
    have HB := Lib.hid hb
    have HK := Lib.hid (HR.out.keep hb)
    have HF0 := Lib.hid hff
    clear hb hff
    by_cases hlt : k < ns.length
    · obtain ⟨A', c', e, hat⟩ := rds_at HK.out
      cases e
      obtain ⟨b, o, rfl, hgl, hc⟩ := hat k hlt
      have hc0 := hc k hlt
      have hk0 : (0 : Int) ≤ (k : Int) := by omega
      have hk1 : (k : Int) < (ns.length : Int) := by omega
      have HCC := Lib.hid (HC.out (ns.getD k ByteArray.empty) wr (HM.out k hlt))
      have hsk := HS.out k hlt
      have HYK := Lib.hid (HY.out k hlt)
      clear hc hat
      generalize ns.getD k ByteArray.empty = z at *
      cases hz : f z
      · have HX : Hid ((ns.take (k + 1)).any f = false) := by show _ = _; rw [hsk, HF0.out, hz]; rfl
        rw [hz] at HCC
        clear hz hsk
        go_wp2_with fail
        refine HCC.out.mono ?_; rintro e w1 ⟨rfl, hb1⟩
        have HB1 := Lib.hid (HB.out.trans (hb1.mono HB.out.size))
        clear hb1 HB hc0
        go_wp2_with fail
        go_roundw
        case rel => exact ⟨k + 1, by omega, by go_num, HB1.out, HX.out⟩
        case measure => simp [intOf]; omega
      · have HX : Hid (ns.any f = true) := HYK.out hz
        rw [hz] at HCC
        clear hz hsk
        go_wp2_with fail
        refine HCC.out.mono ?_; rintro e w1 ⟨rfl, hb1⟩
        have HB1 := Lib.hid (HB.out.trans (hb1.mono HB.out.size))
        clear hb1 HB hc0
        go_wp2_with fail
        go_ret
        exact ⟨k, rfl, by rw [HX.out]; exact decide_eq_true hk0, by omega, by omega, HB1.out⟩
    · obtain rfl : k = ns.length := by omega
      have HX : Hid (ns.any f = false) := by show _ = _; rw [← HE.out]; exact HF0.out
      go_wp2_with fail
      go_ret
      exact ⟨-1, rfl, by rw [HX.out]; rfl, by decide, by decide, HB.out⟩
theorem contains_areNoBits (W : World) (v : Value) (ns : List ByteArray) (hr : RdS W v ns) (hn : ns.length ≤ 4000000) (hm : ∀ s ∈ ns, s.size ≤ maxLen) :
    Calls Try.prog 59 #[v, .func (.func 61) #[] #[]] W fun e w' => e = .returned (.bool (ns.any btX)) ∧ Below W.heap.size W w' := by
  have HC := Lib.hid (index_areNoBits W v ns hr hn hm)
  obtain ⟨A, c, rfl, -⟩ := rds_at hr
  clear hr hm
  generalize ns.any btX = b at *
  go_enter Try.func59, Try.ntmps59
  go_wp2_with fail
  refine HC.out.mono ?_; rintro e w1 ⟨r, rfl, hr, hr1, hr2, hb1⟩
  have HB1 := Lib.hid hb1
  have HRR := Lib.hid hr
  clear hb1 hr
  go_wp2_with fail
  go_ret
  exact ⟨ret_bool (by rw [← HRR.out]), HB1.out⟩
set_option maxRecDepth 100000 in
set_option maxHeartbeats 2000000 in
theorem isIncreasingS (W : World) (v : Value) (ns : List ByteArray) (hr : RdS W v ns) (hn : ns.length ≤ 4000000) :
    Calls Try.prog 58 #[v] W fun e w' => e = .returned (.bool (incS ns)) ∧ Below W.heap.size W w' := by
  obtain ⟨A, c, rfl, -⟩ := rds_at hr
  have HR := Lib.hid hr
  have HNO : Hid (∀ k, 0 < k → k < ns.length → lsB (ns.getD (k - 1) ByteArray.empty) (ns.getD k ByteArray.empty) = false → incS ns = false) := by
    show ∀ k, _
    intro k h0 hk h; exact incN_no h0 hk h
  have HYES : Hid (incN ns ns.length = true → incS ns = true) := fun h => h
  have HST := Lib.hid (fun k (h1 : incN ns k = true) h => incN_yes (ns := ns) (k := k) h1 h)
  clear hr
  generalize incS ns = R at *
  go_enter Try.func58, Try.ntmps58
  go_wp2_with fail
  go_loopw [6] (fun i wr => ∃ k : Nat, k ≤ ns.length ∧ i = .int .i64 k ∧ Below W.heap.size W wr ∧ incN ns k = true) (fun i _ => ns.length - (intOf i).toNat)
  case atStart => exact ⟨0, Nat.zero_le _, rfl, Below.refl _ _, rfl⟩
  case round =>
    obtain ⟨k, hk, rfl, hb, hff⟩ := hrel
    have HB := Lib.hid hb
    have HK := Lib.hid (HR.out.keep hb)
    have HF0 := Lib.hid hff
    clear hb hff
    by_cases hlt : k < ns.length
    · obtain ⟨A', c', e, hat⟩ := rds_at HK.out
      cases e
      obtain ⟨b, o, rfl, hgl, hc⟩ := hat k hlt
      have hc0 := hc k hlt
      have i0 : (0 : Int) ≤ (k : Int) := by omega
      have i1 : (k : Int) < (ns.length : Int) := by omega
      have wk : IntKind.i64.wrap ((k : Int) + 1) = (k : Int) + 1 := IntWalk.i64_in _ (by omega)
      by_cases h0 : k = 0
      · have HX := Lib.hid (HST.out k HF0.out (.inl h0))
        have z0 : ¬ (0 : Int) < (k : Int) := by omega
        have z1 : ¬ 0 < k := by omega
        have z2 : decide ((0 : Int) < (k : Int)) = false := decide_eq_false z0
        clear h0 hc hat
        go_wp2_with fail
        go_quiet (fail)
        go_wp2_with fail
        go_roundw
        case rel => exact ⟨k + 1, by omega, by go_num, below_drewN HB.out _, HX.out⟩
        case measure => simp [intOf]; omega
      · obtain ⟨p, hp⟩ : ∃ p, p = k - 1 := ⟨_, rfl⟩
        have hcp := hc p (by omega)
        have j0 : (0 : Int) ≤ (p : Int) := by omega
        have j1 : (p : Int) < (ns.length : Int) := by omega
        have wp : IntKind.i64.wrap ((k : Int) - 1) = (p : Int) := by rw [IntWalk.i64_in _ (by omega)]; omega
        have z0 : (0 : Int) < (k : Int) := by omega
        have z1 : 0 < k := by omega
        have z2 : decide ((0 : Int) < (k : Int)) = true := decide_eq_true z0
        have HSTK := Lib.hid (fun h => HST.out k HF0.out (.inr h))
        have HNK := Lib.hid (HNO.out k z1 hlt)
        rw [← hp] at HSTK HNK
        clear h0 hc hat hp
        generalize ns.getD p ByteArray.empty = a at *
        generalize ns.getD k ByteArray.empty = d at *
        have hle := fun t W => run_leqB (P := Try.prog) t a d W
        cases hq : lsB a d
        · rw [hq] at hle
          have hR := HNK.out hq
          subst hR
          clear hq
          go_wp2_with fail
          go_quiet (fail)
          go_wp2_with fail
          go_ret
          exact ⟨rfl, below_drewN HB.out _⟩
        · rw [hq] at hle
          have HX := Lib.hid (HSTK.out hq)
          clear hq
          go_wp2_with fail
          go_quiet (fail)
          go_wp2_with fail
          go_roundw
          case rel => exact ⟨k + 1, by omega, by go_num, below_drewN HB.out _, HX.out⟩
          case measure => simp [intOf]; omega
    · obtain rfl : k = ns.length := by omega
      have hR := HYES.out HF0.out
      subst hR
      have hnl : ¬ (ns.length : Int) < (ns.length : Int) := by omega
      go_wp2_with fail
      go_ret
      exact ⟨rfl, HB.out⟩
end Go.Proofs.Ytnpigefbdadjfaa
