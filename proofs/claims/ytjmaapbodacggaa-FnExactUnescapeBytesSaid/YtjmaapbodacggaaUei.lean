/- The program's UnescapeBytes. -/
import Derived.Test.YtjmaapbodacggaaUem
namespace Go.Proofs.Ytjmaapbodacggaa
open Go Go.RowKit
set_option linter.unusedVariables false

theorem step_func (f : Fn) (a c : Array Value) (W : World) : (binOp .neq 85 (.func f a c) .nilFunc).run Try.prog W = .ok (.bool true) W := by
  have h : ∀ d : Nat, (Op.equalIn (d + 1) 85 (.func f a c) .nilFunc).run Try.prog W = .ok false W := fun d => by
    simp [Op.equalIn, run_underlying Try.underlying85]
  simp only [binOp]
  simp [Op.equal, Op.maxDepth, h 9999]
theorem step_nil (W : World) : (binOp .neq 85 .nilFunc .nilFunc).run Try.prog W = .ok (.bool false) W := by
  have h : ∀ d : Nat, (Op.equalIn (d + 1) 85 .nilFunc .nilFunc).run Try.prog W = .ok true W := fun d => by
    simp [Op.equalIn, run_underlying Try.underlying85]
  simp only [binOp]
  simp [Op.equal, Op.maxDepth, h 9999]
/-- How much is left for the machine. -/
def ueLeft (ub : Nat) (f : Value) (w : World) : Nat := match f with | .nilFunc => 0 | _ => (match w.cell? ⟨ub, 1, none⟩ with | some (.slice _ n _) => n + 1 | _ => 0)
theorem UU.left {w0 wr : World} {ub : Nat} {vs : Value} {R Q : List Int} {wh : Bool} (h : UU w0 ub vs R Q wh wr) : ueLeft ub (rbV ub) wr = R.length + 1 ∧ ueLeft ub (reV ub) wr = R.length + 1 := by
  obtain ⟨⟨vr, vp, hk, hr, ho⟩, _, _, _⟩ := h
  obtain ⟨A, c, rfl, -⟩ := hr.sh
  have := hk.cell 1 _ rfl
  constructor
  · unfold ueLeft rbV; simp only; rw [this]; simp [intVals]
  · unfold ueLeft reV; simp only; rw [this]; simp [intVals]
theorem left_less {w0 w' : World} {ub : Nat} {vs : Value} {sp l R R' Q' : List Int} {wh' : Bool} {f : Value} (h : UU w0 ub vs R' Q' wh' w') (hs : St ub sp l R' Q' wh' f) (hl : f = .nilFunc ∨ R'.length < R.length) : ueLeft ub f w' < R.length + 1 := by
  rcases hs with ⟨rfl, _⟩ | ⟨rfl, _⟩ | ⟨rfl, _⟩ | ⟨rfl, _⟩
  · rw [h.left.1]; rcases hl with hl | hl
    · cases hl
    · omega
  · rw [h.left.2]; rcases hl with hl | hl
    · cases hl
    · omega
  · exact Nat.succ_pos _
  · exact Nat.succ_pos _

set_option maxRecDepth 100000 in
set_option maxHeartbeats 2000000 in
theorem unescapeBytes_impl (w : World) (vs vb : Value) (sp l : List Int) (hs : Rd w vs sp) (hl : Rd w vb l) (bs : ∀ n ∈ sp, -9223372036854775808 ≤ n ∧ n ≤ 9223372036854775807) :
    Calls Try.prog 31 #[vs, vb] w fun e w' => ∃ v, e = .returned (.tuple #[v, .bool (ubOk sp l)]) ∧ Own w' w.heap.size v (ubV sp l) ∧ Below w.heap.size w w' := by
  have H1 := Lib.hid (areSpecial_impl w vs sp bs hs)
  have H2 := Lib.hid (fun q => areBytes_impl (w.drewN q) vb l 600 (by decide) (hl.drewN q))
  cases h1 : spOk sp
  · have e : ubOk sp l = false := by unfold ubOk; rw [h1]; rfl
    rw [ubV_no e, e]
    rw [h1] at H1
    clear h1 e hs hl bs
    go_enter Try.func31, Try.ntmps31
    go_wp2_with fail
    refine H1.out.mono ?_; rintro e w' ⟨rfl, q, rfl⟩
    go_wp2_with fail
    go_ret2
    exact ⟨_, rfl, own_none _ _, below_drewN (Below.refl _ _) _⟩
  rw [h1] at H1
  cases h2 : byOk' 600 l
  · have e : ubOk sp l = false := by unfold ubOk; rw [h2]; simp
    rw [ubV_no e, e]
    rw [h2] at H2
    clear h1 h2 e hs hl bs
    go_enter Try.func31, Try.ntmps31
    go_wp2_with fail
    refine H1.out.mono ?_; rintro e w' ⟨rfl, q, rfl⟩
    go_wp2_with fail
    refine (H2.out _).mono ?_; rintro e w' ⟨rfl, rfl⟩
    go_wp2_with fail
    go_ret2
    exact ⟨_, rfl, own_none _ _, below_drewN (Below.refl _ _) _⟩
  · have hlen : l.length ≤ 600 := by
      unfold byOk' at h2
      exact of_decide_eq_true (Bool.and_eq_true_iff.1 h2).1
    have hby : byR l = true := by
      unfold byOk' at h2
      exact (Bool.and_eq_true_iff.1 h2).2
    have HOK : Hid (ubOk sp l = (decide ((ueF l).length ≤ 300) && ueOk sp l)) := by show _ = _; unfold ubOk; rw [h1, h2]; rfl
    have HN1 := Lib.hid (@ubV_no sp l)
    have HY1 := Lib.hid (@ubV_yes sp l)
    have H125 := Lib.hid (spOk_parts h1).2.2.1
    have HBY := Lib.hid hby
    rw [h2] at H2
    have HS0 := Lib.hid hs
    have HV0 := Lib.hid hl
    obtain ⟨A, n, c, rfl, hn, -, -, -⟩ := hl
    obtain ⟨As, ns, cs, rfl, hns, -, -, -⟩ := hs
    have HLL := Lib.hid hlen
    clear h1 h2 bs hn hns hby hlen
    generalize ubV sp l = VV at *
    generalize ubOk sp l = OK at *
    go_enter Try.func31, Try.ntmps31
    go_wp2_with fail
    refine H1.out.mono ?_; rintro e w' ⟨rfl, q, rfl⟩
    go_wp2_with fail
    refine (H2.out _).mono ?_; rintro e w' ⟨rfl, rfl⟩
    obtain ⟨w0, hw0⟩ : ∃ w0, w.drewN q = w0 := ⟨_, rfl⟩
    have HS := Lib.hid (hw0 ▸ HS0.out.drewN q)
    have HR := Lib.hid (rdv_of_rd (hw0 ▸ HV0.out.drewN q))
    have HB0 : Hid (Below w.heap.size w w0) := by show Below _ _ _; rw [← hw0]; exact below_drewN (Below.refl _ _) _
    rw [hw0]
    clear hw0 HS0 HV0
    have kb : Below w0.heap.size w0 (w0.alloc (.cells #[.slice As ns cs, .slice A n c, .slice none 0 0, .bool false] 83)) := (Below.refl _ _).alloc (Nat.le_refl _) _
    have U0 := Lib.hid (show UU w0 w0.heap.size (.slice As ns cs) l [] false (w0.alloc (.cells #[.slice As ns cs, .slice A n c, .slice none 0 0, .bool false] 83)) from
      ⟨⟨_, _, Blk.new w0 [.slice As ns cs, .slice A n c, .slice none 0 0, .bool false] _ _ rfl, HR.out.keep kb, own_none _ _⟩, kb, Nat.le_refl _, by simp⟩)
    have HRB := Lib.hid (readByte_any w0 _ w0.heap.size (.slice As ns cs) sp l l [] U0.out HS.out rfl rfl HBY.out H125.out (by have := HLL.out; simpa using this))
    clear kb
    go_wp2_with fail
    refine HRB.out.mono ?_; rintro e w1 ⟨f1, R1, Q1, wh1, rfl, hfu, hfs, hfb, hfl, hfq⟩
    have F1 := Lib.hid (And.intro hfu (And.intro hfs (And.intro hfb hfq)))
    clear hfu hfs hfb hfl hfq HRB U0
    go_wp2_with fail
    go_loopw [7] (fun f wr => ∃ (R Q : List Int) (wh : Bool), UU w0 w0.heap.size (.slice As ns cs) R Q wh wr ∧ St w0.heap.size sp l R Q wh f ∧ byR R = true ∧ Q.length + R.length ≤ 600) (fun f wr => ueLeft w0.heap.size f wr)
    case atStart => exact ⟨R1, Q1, wh1, F1.out.1, F1.out.2.1, F1.out.2.2.1, by have := F1.out.2.2.2; have h2 := HLL.out; simp at this; omega⟩
    case round =>
      clear F1
      have sf := step_func
      have sn := step_nil
      obtain ⟨R, Q, wh, hu, hst, hbr, hq⟩ := hrel
      have HU := Lib.hid hu
      have HBR := Lib.hid hbr
      clear hu hbr
      rcases hst with ⟨rfl, rfl, e1, e2⟩ | ⟨rfl, rfl, e1, e2⟩ | ⟨rfl, rfl, e1, e2⟩ | ⟨rfl, rfl, e1⟩
      · have HC := Lib.hid (readByte_any w0 _ w0.heap.size (.slice As ns cs) sp l R Q HU.out HS.out e1 e2 HBR.out H125.out hq)
        have HM := HU.out.left.1
        unfold rbV at HM ⊢
        have HMM := Lib.hid HM
        clear e1 e2 HM
        go_wp2_with fail
        refine HC.out.mono ?_; rintro e w2 ⟨f2, R2, Q2, wh2, rfl, hfu, hfs, hfb, hfl, hfq⟩
        have F2 := Lib.hid (And.intro hfu (And.intro hfs (And.intro hfb hfq)))
        have FL := Lib.hid (left_less hfu hfs hfl)
        clear hfu hfs hfb hfl hfq
        go_wp2_with fail
        go_roundw
        case rel => exact ⟨R2, Q2, wh2, F2.out.1, F2.out.2.1, F2.out.2.2.1, by have := F2.out.2.2.2; omega⟩
        case measure => have h1 := FL.out; have h2 := HMM.out; simp at h1 h2 ⊢; omega
      · have HC := Lib.hid (readEscaped_any w0 _ w0.heap.size (.slice As ns cs) sp l R Q HU.out HS.out e1 e2 HBR.out H125.out hq)
        have HM := HU.out.left.2
        unfold reV at HM ⊢
        have HMM := Lib.hid HM
        clear e1 e2 HM
        go_wp2_with fail
        refine HC.out.mono ?_; rintro e w2 ⟨f2, R2, Q2, wh2, rfl, hfu, hfs, hfb, hfl, hfq⟩
        have F2 := Lib.hid (And.intro hfu (And.intro hfs (And.intro hfb hfq)))
        have FL := Lib.hid (left_less hfu hfs hfl)
        clear hfu hfs hfb hfl hfq
        go_wp2_with fail
        go_roundw
        case rel => exact ⟨R2, Q2, wh2, F2.out.1, F2.out.2.1, F2.out.2.2.1, by have := F2.out.2.2.2; omega⟩
        case measure => have h1 := FL.out; have h2 := HMM.out; simp at h1 h2 ⊢; omega
      · obtain ⟨⟨vr, vp, hk, hr, ho⟩, hbel, hlow, hsiz⟩ := HU.out
        have q2 := hk.cell 2 _ rfl
        have q3 := hk.cell 3 _ rfl
        have ho2 : Own wr w.heap.size vp Q := Own.base ho (by have := HB0.out.size; omega)
        have HO := Lib.hid ho2
        have HB := Lib.hid (HB0.out.trans (hbel.mono HB0.out.size))
        have hokx := HOK.out
        rw [e1, e2, Bool.and_true] at hokx
        have hyx := HY1.out
        rw [e2] at hyx
        obtain ⟨A9, c9, rfl⟩ := own_shape ho
        clear hk hr ho hbel hlow hsiz ho2 e1
        have hql : Q.length ≤ 600 := by omega
        by_cases h3 : Q.length ≤ 300
        · have hm3 : ¬ (300 : Int) < (Q.length : Int) := by omega
          rw [decide_eq_true h3] at hokx
          have HZ := Lib.hid (And.intro hokx (hyx hokx))
          clear hokx hyx e2
          generalize Q.length = N9 at *
          go_wp2_with fail
          go_ret2
          rw [HZ.out.1, HZ.out.2]
          exact ⟨_, rfl, HO.out, HB.out⟩
        · have hm3 : (300 : Int) < (Q.length : Int) := by omega
          rw [decide_eq_false h3] at hokx
          have HZ := Lib.hid (And.intro hokx (HN1.out hokx))
          clear hokx hyx e2
          generalize Q.length = N9 at *
          go_wp2_with fail
          go_ret2
          rw [HZ.out.1, HZ.out.2]
          exact ⟨_, rfl, own_none _ _, HB.out⟩
      · obtain ⟨⟨vr, vp, hk, hr, ho⟩, hbel, hlow, hsiz⟩ := HU.out
        have q2 := hk.cell 2 _ rfl
        have q3 := hk.cell 3 _ rfl
        have HB := Lib.hid (HB0.out.trans (hbel.mono HB0.out.size))
        have hokx := HOK.out
        rw [e1, Bool.and_false] at hokx
        have HZ := Lib.hid (And.intro hokx (HN1.out hokx))
        clear hk hr ho hbel hlow hsiz e1 hokx
        go_wp2_with fail
        go_ret2
        rw [HZ.out.1, HZ.out.2]
        exact ⟨_, rfl, own_none _ _, HB.out⟩
end Go.Proofs.Ytjmaapbodacggaa
