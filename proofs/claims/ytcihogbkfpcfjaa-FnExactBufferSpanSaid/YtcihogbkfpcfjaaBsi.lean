/- The program's BufferSpan. -/
import Derived.Test.YtcihogbkfpcfjaaMnf
import Derived.Test.YtcihogbkfpcfjaaRuns
namespace Go.Proofs.Ytcihogbkfpcfjaa
open Go Go.RowKit
set_option linter.unusedVariables false


theorem btO_none {a b d : Int} {k : Nat} (hd : dpB d = true) (hk : (k : Int) ≤ d) (h : btO a b d k = none) : bsO a b d = none := by
  unfold btO at h
  cases hx : tkOk a b
  · unfold bsO; rw [hx]; rfl
  · have hf : flB d k = true := decide_eq_true ⟨by omega, hk⟩
    rw [hx, hd, hf] at h
    have h : btT a b d k 0 = none := h
    unfold bsO; rw [hx, hd]
    exact bsK_end h hk
theorem btO_some {a b d t : Int} {k : Nat} (h : btO a b d k = some t) : tkOk a b = true ∧ btT a b d k 0 = some t ∧ 0 ≤ t ∧ t ≤ 1000000 := by
  unfold btO at h
  cases hx : tkOk a b
  · rw [hx] at h; cases h
  · rw [hx] at h
    split at h
    · refine ⟨rfl, h, ?_⟩
      unfold tkOk at hx
      have h1 := tkB_is (Bool.and_eq_true_iff.1 hx).1
      have h2 := tkB_is (Bool.and_eq_true_iff.1 hx).2
      have := bt_bd (by omega) (by omega) _ _ _ h
      omega
    · cases h
/-- The first fills have their times. -/
def Tms (a b d : Int) (ts : List Int) (k : Nat) : Prop := ts.length = k ∧ ∀ i : Nat, i < k → tkOk a b = true ∧ btT a b d i 0 = some (ts.getD i 0) ∧ 0 ≤ ts.getD i 0 ∧ ts.getD i 0 ≤ 1000000
theorem Tms.next {a b d t : Int} {ts : List Int} {k : Nat} (h : Tms a b d ts k) (h2 : btO a b d k = some t) : Tms a b d (ts ++ [t]) (k + 1) := by
  refine ⟨by simp [h.1], fun i hi => ?_⟩
  by_cases e : i = k
  · subst e
    have := btO_some h2
    rw [List.getD, List.getElem?_append_right (by have := h.1; omega), h.1, Nat.sub_self]
    exact this
  · rw [List.getD, List.getElem?_append_left (by have := h.1; omega), ← List.getD]
    exact h.2 i (by omega)
theorem Tms.last {a b d : Int} {ts : List Int} {k : Nat} (hd : dpB d = true) (h : Tms a b d ts k) (hk : k = d.toNat + 1) : bsO a b d = some (bpK ts k) := by
  have h1 := bpK_bs k (fun i hi => (h.2 i hi).2.1)
  unfold bsO
  rw [(h.2 0 (by omega)).1, hd, ← hk]
  exact h1
theorem c2_span (wr : World) (x y : Value) (t : TypeId) : ∀ (j : Nat) (u : Value), [x, y][j]? = some u → (wr.alloc (.cells #[x, y] t)).cell? ((⟨wr.heap.size, 0, none⟩ : Addr).add j) = some u := by
  intro j u hj
  match j, hj with
  | 0, hj => simp at hj; subst hj; rw [show ((⟨wr.heap.size, 0, none⟩ : Addr).add 0) = ⟨wr.heap.size, 0, none⟩ from by simp [Addr.add], World.cell?_alloc_at _ _ _ _ rfl]; rfl
  | 1, hj => simp at hj; subst hj; rw [show ((⟨wr.heap.size, 0, none⟩ : Addr).add 1) = ⟨wr.heap.size, 1, none⟩ from by simp [Addr.add], World.cell?_alloc_at _ _ _ _ rfl]; rfl
theorem below_consS {B n : Nat} {w wr w1 : World} {e : TypeId} {v : Value} {xs : List Value} {o : Obj} (hb : Below B w wr) (hB : B ≤ wr.heap.size) (hown : wr.ownsRow B e 2 v n xs) (hg : (wr.alloc o).grownBy w1 v.ownBlock) : Below B w w1 :=
  (hb.alloc hB o).grown hg (by simp; omega) (fun k hk => (hown.lt k hk).1)

set_option maxRecDepth 100000 in
set_option maxHeartbeats 2000000 in
theorem bufSpan_impl (a b d : Int) (w : World) :
    Calls Try.prog 33 #[.int .i64 a, .int .i64 b, .int .i64 d] w fun e w' => e = .returned (.tuple #[.int .i64 (o1 (bsO a b d)), .int .i64 (o2 (bsO a b d)), .bool (bsO a b d).isSome]) ∧ Below w.heap.size w w' := by
  obtain ⟨i0, hi, hz0, hz1, hz2⟩ := info_parts Try.infoSpan
  have HI1 : Hid (∀ W, Calls Try.prog 44 #[.int .i64 d, .int .i64 1, .int .i64 64] W fun e w' => e = .returned (.bool (dpB d)) ∧ W = w') := fun W => is_any d 1 64 W
  cases hd : dpB d
  · rw [bsO_no (.inr (.inr hd))]
    rw [hd] at HI1
    clear hd
    go_enter Try.func33, Try.ntmps33
    go_wp2_with fail
    refine (HI1.out _).mono ?_; rintro e w' ⟨rfl, rfl⟩
    go_wp2_with fail
    go_ret3
    exact ⟨rfl, Below.refl _ _⟩
  · rw [hd] at HI1
    have HT := Lib.hid (fun (k : Nat) W => bufTime_impl a b d k W)
    have HNO := Lib.hid (fun k => @btO_none a b d k hd)
    have HLA := Lib.hid (fun ts k => @Tms.last a b d ts k hd)
    have HST : Hid (Tms a b d [] 0) := ⟨rfl, fun i hi => by omega⟩
    have hdd : 1 ≤ d ∧ d ≤ 64 := of_decide_eq_true hd
    obtain ⟨d0, d1⟩ := hdd
    obtain ⟨V, hV⟩ : ∃ V, V = bsO a b d := ⟨_, rfl⟩
    rw [← hV] at HNO HLA ⊢
    clear hd hV
    go_enter Try.func33, Try.ntmps33
    go_wp2_with fail
    refine (HI1.out _).mono ?_; rintro e w' ⟨rfl, rfl⟩
    go_wp2_with fail
    go_loopw [9, 19] (fun v i wr => ∃ (k : Nat) (ts : List Int), (k : Int) ≤ d + 1 ∧ i = .int .i64 k ∧ Tms a b d ts k ∧ wr.ownsRow w.heap.size 56 2 v k (spc ts) ∧ Below w.heap.size w wr) (fun _ i _ => 66 - (intOf i).toNat)
    case atStart => exact ⟨0, [], by omega, rfl, HST.out, World.ownsRow_nil _ _ _ _, Below.refl _ _⟩
    case round =>
      obtain ⟨k, ts, hk, rfl, hts, hown, hb⟩ := hrel
      have HTS := Lib.hid hts
      have HO := Lib.hid hown
      have HB := Lib.hid hb
      clear hts hown hb HST
      by_cases hlt : (k : Int) ≤ d
      · have HTk := Lib.hid (HT.out k)
        cases ho : btO a b d k with
        | none =>
          have HX := Lib.hid (HNO.out k hlt ho)
          rw [ho] at HTk
          have e1 : ov none = 0 := rfl
          have e2 : (none : Option Int).isSome = false := rfl
          rw [e1, e2] at HTk
          clear ho HNO HLA HT e1 e2
          go_wp2_with fail
          refine (HTk.out _).mono ?_; rintro e w2 ⟨rfl, hb2⟩
          have HB2 := Lib.hid (HB.out.trans (hb2.mono HB.out.size))
          clear hb2
          go_wp2_with fail
          go_ret3
          exact ⟨by rw [HX.out]; rfl, HB2.out⟩
        | some t =>
          have HN := Lib.hid (HTS.out.next ho)
          rw [ho] at HTk
          have e1 : ov (some t) = t := rfl
          have e2 : (some t).isSome = true := rfl
          rw [e1, e2] at HTk
          have HSN := Lib.hid (spc_snoc ts t)
          have HTL : Hid (ts.length = k) := HTS.out.1
          rw [HTL.out] at HSN
          clear ho HNO HLA HT e1 e2 HTS
          go_wp2_with fail
          refine (HTk.out _).mono ?_; rintro e w2 ⟨rfl, hb2⟩
          have HB2 := Lib.hid (HB.out.trans (hb2.mono HB.out.size))
          have HO2 := Lib.hid (own_below HO.out hb2)
          have hsz : Hid (w.heap.size ≤ w2.heap.size) := HB2.out.size
          clear hb2 HB HO
          go_wp2_with (at_builtin; refine wpList_append_lies _ rfl _ _ 54 rfl w.heap.size 56 i0 (.agg #[.int .i64 0, .int .i64 0]) 2 16 Try.underlying54 hi hz0 hz1 hz2 rfl (by decide) _ _ _ rfl (World.ownsRow.alloc HO2.out _) ⟨w2.heap.size, 0, none⟩ 1 1 [.int .i64 (k : Int), .int .i64 t] rfl rfl ?c1 ?c2 (by decide) ?c3 ?c4 ?c5 (w2.heap.size + 1) (by simp) ?_)
          case c1 => exact c2_span _ _ _ _
          case c2 => intro u hu; simp at hu; rcases hu with rfl | rfl <;> rfl
          case c3 => unfold maxLen; omega
          case c4 => omega
          case c5 => have := hsz.out; simp; omega
          intro g cap w4 hown4 hgrow hat hlt4
          have hb4 := below_consS HB2.out hsz.out HO2.out hgrow
          have HB4 := Lib.hid hb4
          have HO4 : Hid (w4.ownsRow w.heap.size 56 2 (.slice (some ⟨g, 0, none⟩) (k + 1) cap) (k + 1) (spc (ts ++ [t]))) := by
            show World.ownsRow _ _ _ _ _ _ _
            rw [HSN.out]; exact hown4
          clear hown4 hgrow hat hlt4 hb4 HO2 HB2
          go_wp2_with fail
          go_roundw
          case rel => exact ⟨k + 1, ts ++ [t], by omega, by go_num, HN.out, HO4.out, HB4.out⟩
          case measure => simp [intOf]; omega
      · have hkd : k = d.toNat + 1 := by omega
        have HX := Lib.hid (HLA.out ts k HTS.out hkd)
        obtain ⟨g, c, rfl, hg1, hg2, hc1, hc2⟩ := own_some HO.out (by omega)
        have HMF := Lib.hid (minFunc_any wr g k c ts (SpR.of HTS.out.1 (by omega) HO.out) (by omega) (fun i hi => (HTS.out.2 i (by have := HTS.out.1; omega)).2.2))
        have hbp := bpK_bd ts (fun i hi => (HTS.out.2 i (by have := HTS.out.1; omega)).2.2) k (by have := HTS.out.1; omega)
        have HE : Hid (o1 V = (bpK ts k).1 ∧ o2 V = (bpK ts k).2 ∧ V.isSome = true) := by
          show _ ∧ _
          rw [HX.out]; exact ⟨rfl, rfl, rfl⟩
        generalize (bpK ts k).1 = X at *
        generalize (bpK ts k).2 = Y at *
        clear HNO HLA HT HX hkd HTS HO hbp
        go_wp2_with fail
        refine HMF.out.mono ?_; rintro e w2 ⟨rfl, hb2⟩
        have HB2 := Lib.hid (HB.out.trans (hb2.mono HB.out.size))
        have HB3 := Lib.hid (HB2.out.alloc HB2.out.size (.cells #[.int .i64 X, .int .i64 Y] 56))
        clear hb2 HMF
        go_wp2_with fail
        go_quiet (fail)
        go_wp2_with fail
        go_ret3
        exact ⟨ret_iib HE.out.1.symm HE.out.2.1.symm HE.out.2.2.symm, below_drewN HB3.out _⟩
end Go.Proofs.Ytcihogbkfpcfjaa
