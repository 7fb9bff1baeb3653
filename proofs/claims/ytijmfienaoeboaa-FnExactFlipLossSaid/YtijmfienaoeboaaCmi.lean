/- Both IsCompleteCode. -/
import Derived.Test.YtijmfienaoeboaaPxm
namespace Go.Proofs.Ytijmfienaoeboaa
open Go Go.RowKit Go.Maps
set_option linter.unusedVariables false

theorem cmOk_c {l : List ByteArray} (h : cdOk l = false) : cmOk l = false := by unfold cmOk; rw [h]; rfl
theorem cmOk_p {l : List ByteArray} (h : preB (pth l) = false) : cmOk l = false := by unfold cmOk; rw [h]; simp
theorem cmOk_k {l : List ByteArray} (h : ¬ kr l = 4096) : cmOk l = false := by unfold cmOk; rw [decide_eq_false h]; simp
theorem cmOk_t {l : List ByteArray} (h1 : cdOk l = true) (h2 : preB (pth l) = true) (h3 : kr l = 4096) : cmOk l = true := by unfold cmOk; rw [h1, h2, decide_eq_true h3]; rfl

theorem isComplete_spec (w : World) (v : Value) (l : List ByteArray) (h : RdS w v l) (hm : ∀ s ∈ l, s.size ≤ 4000000) :
    Calls Try.prog 25 #[v] w fun e w' => e = .returned (.bool (cmOk l)) ∧ Below w.heap.size w w' := by
  have HC := Lib.hid (l05Is_any w v l h hm)
  have HH := Lib.hid h
  cases hc : cdOk l
  · have HE := Lib.hid (cmOk_c hc)
    rw [hc] at HC
    clear h hm hc
    go_enter Try.func25, Try.ntmps25
    go_wp2_with fail
    refine HC.out.mono ?_; rintro e w' ⟨rfl, q, rfl⟩
    go_wp2_with fail
    go_ret
    exact ⟨ret_bool HE.out.symm, below_drewN (Below.refl _ _) q⟩
  · have HD : Hid (∀ W, RdS W v l → Calls Try.prog 75 #[v] W fun e w' => e = .returned (.bool (cmOk l)) ∧ ∃ q, w' = W.drewN q) := by
      show ∀ W, _
      intro W hW
      have HP := Lib.hid (l05Prefix_any W v l hW hc)
      have HK := Lib.hid (fun W' h => l05Kraft_any W' v l h hc)
      have HHW := Lib.hid hW
      have HC1 := Lib.hid (fun h2 h3 => cmOk_t hc h2 h3)
      have HC2 := Lib.hid (@cmOk_p l)
      have HC3 := Lib.hid (@cmOk_k l)
      clear hc h hm HC HH hW
      cases hp : preB (pth l)
      · rw [hp] at HP
        have HE := Lib.hid (HC2.out hp)
        clear hp
        go_enter Try.func75, Try.ntmps75
        go_wp2_with fail
        refine HP.out.mono ?_; rintro e w' ⟨rfl, q, rfl⟩
        go_wp2_with fail
        go_ret
        exact ⟨ret_bool HE.out.symm, q, rfl⟩
      · rw [hp] at HP
        by_cases hk : kr l = 4096
        · have HE := Lib.hid (HC1.out hp hk)
          rw [hk] at HK
          clear hp hk
          go_enter Try.func75, Try.ntmps75
          go_wp2_with fail
          refine HP.out.mono ?_; rintro e w' ⟨rfl, q, rfl⟩
          go_wp2_with fail
          refine (HK.out _ (HHW.out.drewN q)).mono ?_; rintro e w' ⟨rfl, rfl⟩
          go_wp2_with fail
          go_ret
          exact ⟨ret_bool HE.out.symm, q, rfl⟩
        · have HE := Lib.hid (HC3.out hk)
          have s1 : (((kr l : Nat) : Int) == 4096) = false := beq_f (by omega)
          clear hp hk
          generalize kr l = K at *
          go_enter Try.func75, Try.ntmps75
          go_wp2_with fail
          refine HP.out.mono ?_; rintro e w' ⟨rfl, q, rfl⟩
          go_wp2_with fail
          refine (HK.out _ (HHW.out.drewN q)).mono ?_; rintro e w' ⟨rfl, rfl⟩
          go_wp2_with fail
          go_ret
          exact ⟨ret_bool HE.out.symm, q, rfl⟩
    rw [hc] at HC
    clear h hm hc
    generalize cmOk l = R at *
    go_enter Try.func25, Try.ntmps25
    go_wp2_with fail
    refine HC.out.mono ?_; rintro e w' ⟨rfl, q, rfl⟩
    go_wp2_with fail
    refine (HD.out _ (HH.out.drewN q)).mono ?_; rintro e w' ⟨rfl, q2, rfl⟩
    go_wp2_with fail
    go_ret
    exact ⟨rfl, below_drewN (Below.refl _ _) _⟩

theorem eq_frac (a b c d : Int) (w : World) : (Op.equalIn 10000 28 (.agg #[.int .i64 a, .int .i64 b]) (.agg #[.int .i64 c, .int .i64 d])).run Try.prog w = .ok (a == c && b == d) w := by
  have u3 := Try.underlying2
  have a3 := Try.isAgg2
  have z3 := Try.sizeOf2
  have hS : Try.prog.underlying 28 = some (.struct (Try.prog.fieldsOf 28)) := by kernel_rfl
  rw [show (10000 : Nat) = 9999 + 1 from rfl, run_equalIn_struct w 9999 28 _ _ hS (by kernel_rfl)]
  simp only [Program.fieldsOf, Try.underlying28]
  go_simp
  by_cases h1 : a = c <;> by_cases h2 : b = d <;> simp [h1, h2]
theorem eql_frac (a b : Int) (w : World) : (binOp .eql 28 (.agg #[.int .i64 a, .int .i64 b]) (.agg #[.int .i64 1, .int .i64 1])).run Try.prog w = .ok (.bool (decide (a = 1 ∧ b = 1))) w := by
  rw [run_eql_struct, eq_frac]
  by_cases h1 : a = 1 <;> by_cases h2 : b = 1 <;> simp [h1, h2]

set_option maxHeartbeats 1600000 in
theorem isComplete_impl (w : World) (v : Value) (l : List ByteArray) (h : RdS w v l) (hm : ∀ s ∈ l, s.size ≤ 4000000) :
    Calls Try.prog 26 #[v] w fun e w' => e = .returned (.bool (cmOk l)) ∧ Below w.heap.size w w' := by
  have HC := Lib.hid (kraft_impl w v l h hm)
  have HP := Lib.hid (fun W h => isPrefixCode_impl W v l h hm)
  have HH := Lib.hid h
  cases hc : cdOk l
  · have HE := Lib.hid (cmOk_c hc)
    rw [hc] at HC
    clear h hm hc
    generalize krN l = a at *
    generalize krD l = b at *
    go_enter Try.func26, Try.ntmps26
    go_wp2_with fail
    refine HC.out.mono ?_; rintro e w1 ⟨rfl, hb1⟩
    have HB := Lib.hid hb1
    clear hb1
    go_wp2_with fail
    go_ret
    exact ⟨ret_bool HE.out.symm, HB.out.alloc HB.out.size _⟩
  · have hN : krN l = mkN ((kr l : Nat) : Int) 4096 := by unfold krN; rw [hc]; rfl
    have hD : krD l = mkD ((kr l : Nat) : Int) 4096 := by unfold krD; rw [hc]; rfl
    have hone := mk_one (kr l)
    rw [← hN, ← hD] at hone
    have hp : pcOk l = preB (pth l) := by unfold pcOk; rw [hc]; rfl
    rw [hc] at HC
    by_cases hk : kr l = 4096
    · have h11 := hone.2 hk
      rw [h11.1, h11.2] at HC
      have HE : Hid (cmOk l = pcOk l) := by show _ = _; rw [hp]; unfold cmOk; rw [hc, decide_eq_true hk]; simp
      have heq := eql_frac 1 1
      rw [decide_eq_true (show (1 : Int) = 1 ∧ (1 : Int) = 1 from ⟨rfl, rfl⟩)] at heq
      clear h hm hc hN hD hone hp hk h11
      generalize pcOk l = R at *
      go_enter Try.func26, Try.ntmps26
      go_wp2_with fail
      refine HC.out.mono ?_; rintro e w1 ⟨rfl, hb1⟩
      have HB := Lib.hid (hb1.alloc hb1.size (.cells #[.int .i64 1, .int .i64 1] 28))
      clear hb1
      go_wp2_with fail
      refine (HP.out _ (HH.out.keep HB.out)).mono ?_; rintro e w2 ⟨rfl, hb2⟩
      have HB2 := Lib.hid (HB.out.trans (hb2.mono HB.out.size))
      clear hb2
      go_wp2_with fail
      go_ret
      exact ⟨ret_bool HE.out.symm, HB2.out⟩
    · have HE := Lib.hid (cmOk_k hk)
      have hno : ¬ (krN l = 1 ∧ krD l = 1) := fun e => hk (hone.1 e)
      have heq := eql_frac (krN l) (krD l)
      rw [decide_eq_false hno] at heq
      clear h hm hc hN hD hone hp hk hno
      generalize krN l = a at *
      generalize krD l = b at *
      go_enter Try.func26, Try.ntmps26
      go_wp2_with fail
      refine HC.out.mono ?_; rintro e w1 ⟨rfl, hb1⟩
      have HB := Lib.hid hb1
      clear hb1
      go_wp2_with fail
      go_ret
      exact ⟨ret_bool HE.out.symm, HB.out.alloc HB.out.size _⟩
end Go.Proofs.Ytijmfienaoeboaa
