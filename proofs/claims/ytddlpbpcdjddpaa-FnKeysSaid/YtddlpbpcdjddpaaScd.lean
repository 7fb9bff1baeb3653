/- Both ValidScrambler, SpreadOf, LockTime. -/
import Derived.Test.YtddlpbpcdjddpaaSc
import Derived.Test.YtddlpbpcdjddpaaTp
import Derived.Deep.RegionHeld3
import Derived.Deep.DeepCutAuto
namespace Go.Proofs.Ytddlpbpcdjddpaa
open Go Go.RowKit
set_option linter.unusedVariables false

theorem rd_bd {w : World} {v : Value} {l : List Int} (r : ∀ n ∈ l, (Lit.int .i64 n).wf = true) : ∀ n ∈ l, -9223372036854775808 ≤ n ∧ n ≤ 9223372036854775807 := fun n hn => i64_bdd (r n hn)

set_option maxRecDepth 100000 in
theorem l06Is_any (w : World) (k : Nat) (v : Value) (s : ByteArray) (l : List Int) (hb : ∀ n ∈ l, -9223372036854775808 ≤ n ∧ n ≤ 9223372036854775807) (hs : s.size ≤ maxLen) (h : Bk w k (scV v s)) (r : Rd w v l) :
    Calls Try.prog 37 #[.pointer (some ⟨k, 0, none⟩)] w fun e w' => e = .returned (.bool (scOk l s.data.toList)) ∧ ∃ q, w' = w.drewN q := by
  have HT := Lib.hid (fun q => (l06Taps_any (w.drewN q) v l hb (r.drewN q)).mono (fun e w' h => (⟨h.1, by obtain ⟨m, hm⟩ := h.2; exact ⟨q + m, hm.trans (World.drewN_drewN _ _ _)⟩⟩ : e = .returned (.bool (tpOk l)) ∧ ∃ m, w' = w.drewN m)))
  have HI := Lib.hid (fun q => (l01Bits_any s (w.drewN q) hs).mono (fun e w' h => (⟨h.1, q, h.2.symm⟩ : e = .returned (.bool (isB s.data.toList)) ∧ ∃ m, w' = w.drewN m)))
  have HBK := Lib.hid h
  have hE : scOk l s.data.toList = (tpOk l && (isB s.data.toList && decide ((s.data.toList.length : Int) = wid l))) := rfl
  obtain ⟨q0, q1⟩ := bk_2 h
  have hlen := r.len
  unfold maxLen at hs
  have HSZ : Hid (s.data.toList.length = s.size) := by show _ = _; simp
  cases ht : tpOk l
  · rw [ht, Bool.false_and] at hE
    have HE := Lib.hid hE
    rw [ht] at HT
    obtain ⟨A1, c1, rfl⟩ := rd_shp r
    generalize l.length = n1 at *
    clear hE ht r hb h hlen
    go_enter Try.func37, Try.ntmps37
    go_wp2_with fail
    go_quiet ((first | (go_at_call 55; exact HT.out _) | (go_at_call 38; exact HI.out _)))
    go_wp2_with fail
    go_ret
    exact ⟨ret_bool (by rw [HE.out]), _, rfl⟩
  · rw [ht, Bool.true_and] at hE
    have hl0 := (tpOk_parts ht).1
    have hw16 := tpOk_wid ht
    have hlast := wid_at hl0
    rw [ht] at HT
    obtain ⟨A, n, c, rfl, hn, -, -, rr⟩ := r
    obtain ⟨b, o, rfl, hlt, hc⟩ := rr (by omega)
    have hc0 := hc (l.length - 1) (by omega)
    rw [← hlast] at hc0
    rw [hn] at hc0 hl0 hlen
    clear hc rr hb
    have hnl : n ≤ 9223372036854775807 := by unfold maxLen at hlen; omega
    cases hi : isB s.data.toList
    · rw [hi, Bool.false_and] at hE
      have HE := Lib.hid hE
      rw [hi] at HI
      clear hE ht h hlen hi hc0 hw16 hlast
      go_enter Try.func37, Try.ntmps37
      go_wp2_with fail
      go_quiet ((first | (go_at_call 55; exact HT.out _) | (go_at_call 38; exact HI.out _)))
      go_wp2_with fail
      go_ret
      exact ⟨ret_bool (by rw [HE.out]), _, rfl⟩
    · rw [hi, Bool.true_and, HSZ.out] at hE
      have HE := Lib.hid hE
      rw [hi] at HI
      have hw : IntKind.i64.wrap ((n : Int) - 1) = (n : Int) - 1 := IntWalk.i64_in _ (by omega)
      have hk4 : (0 : Int) ≤ (n : Int) - 1 := by omega
      have hk5 : (n : Int) - 1 < (n : Int) := by omega
      have hk6 : ((n : Int) - 1).toNat = n - 1 := by omega
      have hws : IntKind.i64.wrap (s.size : Int) = (s.size : Int) := IntWalk.i64_in _ (by omega)
      generalize wid l = m at *
      clear hE ht h hlen hi hlast hw16
      by_cases hm : (s.size : Int) = m
      · rw [decide_eq_true hm] at HE
        go_enter Try.func37, Try.ntmps37
        go_wp2_with fail
        go_quiet ((first | (go_at_call 55; exact HT.out _) | (go_at_call 38; exact HI.out _)))
        go_wp2_with fail
        go_ret
        exact ⟨ret_bool (by rw [HE.out]), _, rfl⟩
      · rw [decide_eq_false hm] at HE
        have t9 : ((s.size : Int) == m) = false := beq_f hm
        go_enter Try.func37, Try.ntmps37
        go_wp2_with fail
        go_quiet ((first | (go_at_call 55; exact HT.out _) | (go_at_call 38; exact HI.out _)))
        go_wp2_with fail
        go_ret
        exact ⟨ret_bool (by rw [HE.out]; try exact t9), _, rfl⟩

theorem sc_all {W : World} {k : Nat} {v : Value} {s : ByteArray} (h : Bk W k (scV v s)) : W.cell? ⟨k, 0, none⟩ = some v ∧ W.cell? ⟨k, 1, none⟩ = some (.string s) := ⟨h.c 0 _ rfl, h.c 1 _ rfl⟩
theorem q_quiet {P : Program} {f : FuncId} {args : Array Value} {w : World} {q : Nat} {x : Ending} (h : Calls P f args (w.drewN q) fun e w' => e = x ∧ ∃ m, w' = (w.drewN q).drewN m) : Calls P f args (w.drewN q) fun e w' => e = x ∧ ∃ m, w' = w.drewN m :=
  h.mono fun e w' ⟨he, m, hm⟩ => ⟨he, q + m, hm.trans (World.drewN_drewN _ _ _)⟩
theorem q_below {P : Program} {f : FuncId} {args : Array Value} {w : World} {x : Ending} (h : Calls P f args w fun e w' => e = x ∧ ∃ q, w' = w.drewN q) : Calls P f args w fun e w' => e = x ∧ Below w.heap.size w w' :=
  h.mono fun e w' ⟨he, q, hq⟩ => ⟨he, by rw [hq]; exact below_drewN (Below.refl _ _) q⟩
set_option maxRecDepth 100000 in
theorem validSc_impl (w : World) (v : Value) (l : List Int) (s : ByteArray) (hb : ∀ n ∈ l, -9223372036854775808 ≤ n ∧ n ≤ 9223372036854775807) (hs : s.size ≤ maxLen) (h : Rd w v l) :
    Calls Try.prog 41 #[.agg #[v, .string s]] w fun e w' => e = .returned (.bool (scOk l s.data.toList)) ∧ Below w.heap.size w w' := by
  have hB : Below w.heap.size w (w.alloc (.cells #[v, .string s] 28)) := (Below.refl _ _).alloc (Nat.le_refl _) _
  have HRD := Lib.hid (h.keep hB)
  have HBK : Hid (Bk (w.alloc (.cells #[v, .string s] 28)) w.heap.size (scV v s)) := Bk.new w (scV v s) 28 _ rfl
  have HT := Lib.hid (fun W h => q_below (areTaps_any W v l hb h))
  have HTQ := Lib.hid (fun q => q_quiet (areTaps_any _ v l hb (HRD.out.drewN q)))
  have HI := Lib.hid (fun W => isBits_any s W hs)
  have HB := Lib.hid hB
  have hE : scOk l s.data.toList = (tpOk l && (isB s.data.toList && decide ((s.data.toList.length : Int) = wid l))) := rfl
  rw [show s.data.toList.length = s.size from by simp] at hE
  unfold maxLen at hs
  cases ht : tpOk l
  · rw [ht, Bool.false_and] at hE
    have HE := Lib.hid hE
    rw [ht] at HTQ
    obtain ⟨A1, c1, rfl⟩ := rd_shp h
    generalize l.length = n1 at *
    obtain ⟨q0, q1⟩ := sc_all HBK.out
    clear hE ht h hb hB HI HT
    go_enter Try.func41, Try.ntmps41
    go_wp2_with fail
    go_quiet ((go_at_call 57; exact HTQ.out _))
    go_wp2_with fail
    go_ret
    exact ⟨ret_bool (by rw [HE.out]), below_drewN HB.out _⟩
  · rw [ht, Bool.true_and] at hE
    have HW := Lib.hid (fun W h => q_below (widthOf_any W v l (tpOk_parts ht).1 h))
    have HWQ := Lib.hid (fun q => q_quiet (widthOf_any _ v l (tpOk_parts ht).1 (HRD.out.drewN q)))
    rw [ht] at HT HTQ
    obtain ⟨A1, c1, rfl⟩ := rd_shp h
    have hws : IntKind.i64.wrap (s.size : Int) = (s.size : Int) := IntWalk.i64_in _ (by omega)
    generalize l.length = n1 at *
    generalize wid l = m at *
    clear h hb hB ht
    by_cases hm : (s.size : Int) = m
    · rw [decide_eq_true hm, Bool.and_true] at hE
      have HE := Lib.hid hE
      clear hE
      have t9 : ((s.size : Int) == m) = true := beq_t hm
      cases hi : isB s.data.toList
      all_goals
        rw [hi] at HI HE
        clear hi
        go_enter Try.func41, Try.ntmps41
        go_wp2_with fail
        have t0 := HBK.out.drew
        have H0 := Lib.hid (HRD.out.keep (Below.refl _ _).drew)
        have B0 := Lib.hid HB.out.drew
        obtain ⟨q0, q1⟩ := sc_all t0
        go_region_held3 (fun w' => w'.cell? ⟨w.heap.size, 0, none⟩ = some (.slice A1 n1 c1) ∧ w'.cell? ⟨w.heap.size, 1, none⟩ = some (.string s)) ((first | with_reducible exact sc_all t3 | with_reducible exact sc_all t2 | with_reducible exact sc_all t1 | with_reducible exact sc_all t0 | fail))
          (first
            | (go_at_call 57; refine (HT.out _ H0.out).mono ?_; rintro e u1 ⟨rfl, hb1⟩; have t1 := t0.keep hb1; have H1 := Lib.hid (H0.out.keep hb1); have B1 := Lib.hid (B0.out.trans (hb1.mono B0.out.size)); obtain ⟨q0, q1⟩ := sc_all t1; clear hb1)
            | (go_at_call 45; refine (HW.out _ H1.out).mono ?_; rintro e u2 ⟨rfl, hb2⟩; have t2 := t1.keep hb2; have B2 := Lib.hid (B1.out.trans (hb2.mono B1.out.size)); obtain ⟨q0, q1⟩ := sc_all t2; clear hb2)
            | (go_at_call 42; refine (HI.out _).mono ?_; rintro e u3 ⟨rfl, hb3⟩; have t3 := t2.keep hb3; have B3 := Lib.hid (B2.out.trans (hb3.mono B2.out.size)); obtain ⟨q0, q1⟩ := sc_all t3; clear hb3)
            | fail)
        all_goals go_wp2_with fail
        all_goals go_ret
        all_goals exact ⟨ret_bool (by rw [HE.out]), B3.out⟩
    · rw [decide_eq_false hm, Bool.and_false] at hE
      have HE := Lib.hid hE
      clear hE
      have t9 : ((s.size : Int) == m) = false := beq_f hm
      go_enter Try.func41, Try.ntmps41
      obtain ⟨q0, q1⟩ := sc_all HBK.out
      go_wp2_with fail
      go_quiet ((first | (go_at_call 57; exact HTQ.out _) | (go_at_call 45; exact HWQ.out _)))
      go_wp2_with fail
      go_ret
      exact ⟨ret_bool (by rw [HE.out]; try exact t9), below_drewN HB.out _⟩

/-- How many bits are wrong behind one error. -/
def spV (l : List Int) (s : List UInt8) : Int := if scOk l s then (l.length : Int) + 1 else 0
/-- From which bit on another state does not matter. -/
def lkV (l : List Int) (s : List UInt8) : Int := if scOk l s then wid l else 0

set_option maxRecDepth 100000 in
theorem lock_spec (w : World) (v : Value) (l : List Int) (s : ByteArray) (hb : ∀ n ∈ l, -9223372036854775808 ≤ n ∧ n ≤ 9223372036854775807) (hs : s.size ≤ maxLen) (h : Rd w v l) :
    Calls Try.prog 15 #[.agg #[v, .string s]] w fun e w' => e = .returned (.tuple #[.int .i64 (lkV l s.data.toList), .bool (scOk l s.data.toList)]) ∧ Below w.heap.size w w' := by
  have hB : Below w.heap.size w (w.alloc (.cells #[v, .string s] 28)) := (Below.refl _ _).alloc (Nat.le_refl _) _
  have hbk : Bk (w.alloc (.cells #[v, .string s] 28)) w.heap.size (scV v s) := Bk.new w (scV v s) 28 _ rfl
  have HI := Lib.hid (l06Is_any (w.alloc (.cells #[v, .string s] 28)) w.heap.size v s l hb hs hbk (h.keep hB))
  have HB := Lib.hid hB
  have HBK := Lib.hid hbk
  have hlen := h.len
  unfold maxLen at hs hlen
  have hv : lkV l s.data.toList = if scOk l s.data.toList then wid l else 0 := rfl
  obtain ⟨A1, c1, rfl⟩ := rd_shp h
  cases e : scOk l s.data.toList
  · rw [e, if_neg (by decide)] at hv
    have HV := Lib.hid hv
    rw [e] at HI
    generalize l.length = n1 at *
    clear h hb hB hv hbk e
    go_enter Try.func15, Try.ntmps15
    go_wp2_with fail
    refine HI.out.mono ?_; rintro e w' ⟨rfl, q, rfl⟩
    go_wp2_with fail
    go_ret2
    exact ⟨ret_ib (by rw [HV.out]) rfl, below_drewN HB.out q⟩
  · have hpl := scOk_parts e
    have hp : l.length ≤ 16 := tp_len (tpOk_parts hpl.1).2.1 (tpOk_parts hpl.1).2.2
    have hp2 : (s.size : Int) = wid l := by have := hpl.2.2; simpa using this
    rw [e, if_pos rfl] at hv
    have HV := Lib.hid hv
    rw [e] at HI
    generalize l.length = n1 at *
    clear h hb hB hv hbk e hpl
    have HP2 := Lib.hid hp2
    clear hp2
    have t1 : IntKind.i64.wrap (s.size : Int) = (s.size : Int) := IntWalk.i64_in _ (by omega)
    go_enter Try.func15, Try.ntmps15
    go_wp2_with fail
    refine HI.out.mono ?_; rintro e w' ⟨rfl, q, rfl⟩
    obtain ⟨q0, q1⟩ := bk_2 (HBK.out.drewN q)
    go_wp2_with fail
    go_ret2
    exact ⟨ret_ib (by rw [HV.out, HP2.out]) rfl, below_drewN HB.out q⟩

set_option maxRecDepth 100000 in
theorem spread_impl (w : World) (v : Value) (l : List Int) (s : ByteArray) (hb : ∀ n ∈ l, -9223372036854775808 ≤ n ∧ n ≤ 9223372036854775807) (hs : s.size ≤ maxLen) (h : Rd w v l) :
    Calls Try.prog 32 #[.agg #[v, .string s]] w fun e w' => e = .returned (.tuple #[.int .i64 (spV l s.data.toList), .bool (scOk l s.data.toList)]) ∧ Below w.heap.size w w' := by
  have hB : Below w.heap.size w (w.alloc (.cells #[v, .string s] 28)) := (Below.refl _ _).alloc (Nat.le_refl _) _
  have hbk : Bk (w.alloc (.cells #[v, .string s] 28)) w.heap.size (scV v s) := Bk.new w (scV v s) 28 _ rfl
  have HI := Lib.hid (validSc_impl (w.alloc (.cells #[v, .string s] 28)) v l s hb hs (h.keep hB))
  have HB := Lib.hid hB
  have HBK := Lib.hid hbk
  have HR := Lib.hid (h.keep hB)
  have hlen := h.len
  unfold maxLen at hs hlen
  have hv : spV l s.data.toList = if scOk l s.data.toList then (l.length : Int) + 1 else 0 := rfl
  obtain ⟨A1, c1, rfl⟩ := rd_shp h
  cases e : scOk l s.data.toList
  · rw [e, if_neg (by decide)] at hv
    have HV := Lib.hid hv
    rw [e] at HI
    generalize l.length = n1 at *
    clear h hb hB hv hbk e
    obtain ⟨q0, q1⟩ := bk_2 HBK.out
    go_enter Try.func32, Try.ntmps32
    go_wp2_with fail
    refine HI.out.mono ?_; rintro e w' ⟨rfl, hb1⟩
    have HB1 := Lib.hid (HB.out.trans (hb1.mono HB.out.size))
    clear q0 q1 hb1
    go_wp2_with fail
    go_ret2
    exact ⟨ret_ib (by rw [HV.out]) rfl, HB1.out⟩
  · have hpl := scOk_parts e
    have hp : l.length ≤ 16 := tp_len (tpOk_parts hpl.1).2.1 (tpOk_parts hpl.1).2.2
    rw [e, if_pos rfl] at hv
    have HV := Lib.hid hv
    have HW := Lib.hid (fun W h => widthOf_any W (.slice A1 l.length c1) l (tpOk_parts hpl.1).1 h)
    rw [e] at HI
    generalize l.length = n1 at *
    clear h hb hB hv hbk e hpl
    have t1 : IntKind.i64.wrap (n1 : Int) = (n1 : Int) := IntWalk.i64_in _ (by omega)
    have t2 : IntKind.i64.wrap ((n1 : Int) + 1) = (n1 : Int) + 1 := IntWalk.i64_in _ (by omega)
    obtain ⟨q0, q1⟩ := bk_2 HBK.out
    go_enter Try.func32, Try.ntmps32
    go_wp2_with fail
    refine HI.out.mono ?_; rintro e w' ⟨rfl, hb1⟩
    have HB1 := Lib.hid (HB.out.trans (hb1.mono HB.out.size))
    have HBK1 := Lib.hid (HBK.out.keep hb1)
    have HR1 := Lib.hid (HR.out.keep hb1)
    clear q0 q1 hb1
    obtain ⟨q0, q1⟩ := bk_2 HBK1.out
    go_wp2_with fail
    go_ret2
    exact ⟨ret_ib (by rw [HV.out]) rfl, HB1.out⟩

set_option maxRecDepth 100000 in
theorem lock_impl (w : World) (v : Value) (l : List Int) (s : ByteArray) (hb : ∀ n ∈ l, -9223372036854775808 ≤ n ∧ n ≤ 9223372036854775807) (hs : s.size ≤ maxLen) (h : Rd w v l) :
    Calls Try.prog 16 #[.agg #[v, .string s]] w fun e w' => e = .returned (.tuple #[.int .i64 (lkV l s.data.toList), .bool (scOk l s.data.toList)]) ∧ Below w.heap.size w w' := by
  have hB : Below w.heap.size w (w.alloc (.cells #[v, .string s] 28)) := (Below.refl _ _).alloc (Nat.le_refl _) _
  have hbk : Bk (w.alloc (.cells #[v, .string s] 28)) w.heap.size (scV v s) := Bk.new w (scV v s) 28 _ rfl
  have HI := Lib.hid (validSc_impl (w.alloc (.cells #[v, .string s] 28)) v l s hb hs (h.keep hB))
  have HB := Lib.hid hB
  have HBK := Lib.hid hbk
  have HR := Lib.hid (h.keep hB)
  have hlen := h.len
  unfold maxLen at hs hlen
  have hv : lkV l s.data.toList = if scOk l s.data.toList then wid l else 0 := rfl
  obtain ⟨A1, c1, rfl⟩ := rd_shp h
  cases e : scOk l s.data.toList
  · rw [e, if_neg (by decide)] at hv
    have HV := Lib.hid hv
    rw [e] at HI
    generalize l.length = n1 at *
    clear h hb hB hv hbk e
    obtain ⟨q0, q1⟩ := bk_2 HBK.out
    go_enter Try.func16, Try.ntmps16
    go_wp2_with fail
    refine HI.out.mono ?_; rintro e w' ⟨rfl, hb1⟩
    have HB1 := Lib.hid (HB.out.trans (hb1.mono HB.out.size))
    clear q0 q1 hb1
    go_wp2_with fail
    go_ret2
    exact ⟨ret_ib (by rw [HV.out]) rfl, HB1.out⟩
  · have hpl := scOk_parts e
    have hp : l.length ≤ 16 := tp_len (tpOk_parts hpl.1).2.1 (tpOk_parts hpl.1).2.2
    rw [e, if_pos rfl] at hv
    have HV := Lib.hid hv
    have HW := Lib.hid (fun W h => widthOf_any W (.slice A1 l.length c1) l (tpOk_parts hpl.1).1 h)
    rw [e] at HI
    generalize l.length = n1 at *
    clear h hb hB hv hbk e hpl
    skip
    obtain ⟨q0, q1⟩ := bk_2 HBK.out
    go_enter Try.func16, Try.ntmps16
    go_wp2_with fail
    refine HI.out.mono ?_; rintro e w' ⟨rfl, hb1⟩
    have HB1 := Lib.hid (HB.out.trans (hb1.mono HB.out.size))
    have HBK1 := Lib.hid (HBK.out.keep hb1)
    have HR1 := Lib.hid (HR.out.keep hb1)
    clear q0 q1 hb1
    obtain ⟨q0, q1⟩ := bk_2 HBK1.out
    go_wp2_with fail
    refine (HW.out _ HR1.out).mono ?_; rintro e w' ⟨rfl, q, rfl⟩
    go_wp2_with fail
    go_ret2
    exact ⟨ret_ib (by rw [HV.out]) rfl, below_drewN HB1.out q⟩
end Go.Proofs.Ytddlpbpcdjddpaa
