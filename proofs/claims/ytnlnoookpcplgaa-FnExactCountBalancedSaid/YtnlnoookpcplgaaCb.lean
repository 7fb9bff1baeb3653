/- Contracts of both CountBalanced. -/
import Derived.Test.YtnlnoookpcplgaaBin
namespace Go.Proofs.Ytnlnoookpcplgaa
open Go Go.RowKit
set_option linter.unusedVariables false

/-- What CountBalanced answers. -/
def cbOk (n d : Int) : Bool := decide ((0 ≤ n ∧ n ≤ 12) ∧ -12 ≤ d ∧ d ≤ 12)
def cbV (n d : Int) : Int := if cbOk n d = true then (if (n + d).tmod 2 = 0 then binV n ((n + d).tdiv 2) else 0) else 0

theorem cb_spec (n d : Int) (w : World) :
    Calls Try.prog 22 #[.int .i64 n, .int .i64 d] w fun e w' => e = .returned (.tuple #[.int .i64 (cbV n d), .bool (cbOk n d)]) ∧ Below w.heap.size w w' := by
  by_cases h1 : 0 ≤ n ∧ n ≤ 12
  · by_cases h2 : -12 ≤ d ∧ d ≤ 12
    · have hb : cbOk n d = true := decide_eq_true ⟨h1, h2⟩
      obtain ⟨n1, n2⟩ := h1
      obtain ⟨k1, k2⟩ := h2
      by_cases hm : (n + d).tmod 2 = 0
      · have HV : Hid (cbV n d = binV n ((n + d).tdiv 2)) := by show _ = _; unfold cbV; rw [if_pos hb, if_pos hm]
        have hqb : -6 ≤ (n + d).tdiv 2 ∧ (n + d).tdiv 2 ≤ 12 := by have := Int.mul_tdiv_add_tmod (n + d) 2; omega
        rw [hb]
        clear hb
        generalize cbV n d = V at *
        generalize hq : (n + d).tdiv 2 = q at *
        by_cases h3 : 0 ≤ q ∧ q ≤ n
        · have HB : Hid (binV n q = pas n.toNat q.toNat) := by show _ = _; unfold binV; rw [if_pos (show binOk n q = true from decide_eq_true ⟨⟨n1, by omega⟩, h3⟩)]
          obtain ⟨q1, q2⟩ := h3
          have hc := fun W => choose_any n.toNat q.toNat (by omega) (by omega) W
          rw [show ((n.toNat : Nat) : Int) = n from by omega, show ((q.toNat : Nat) : Int) = q from by omega] at hc
          have HC := Lib.hid hc
          clear hc
          go_enter Try.func22, Try.ntmps22
          go_wp2_with fail
          refine (l00In_yes _ _ _ _ n1 n2).mono ?_; rintro e w' ⟨rfl, rfl⟩
          go_wp2_with fail
          refine (l00In_yes _ _ _ _ k1 k2).mono ?_; rintro e w' ⟨rfl, rfl⟩
          go_wp2_with fail
          refine (l00In_yes _ _ _ _ q1 q2).mono ?_; rintro e w' ⟨rfl, rfl⟩
          go_wp2_with fail
          refine (HC.out _).mono ?_; rintro e w1 ⟨rfl, hb⟩
          have HBB := Lib.hid hb
          clear hb
          go_wp2_with fail
          go_ret2
          exact ⟨ret_ib (by rw [HV.out, HB.out]) rfl, HBB.out⟩
        · have HB : Hid (binV n q = 0) := by show _ = _; unfold binV; rw [if_neg (by unfold binOk; intro e; exact h3 (of_decide_eq_true e).2)]
          have H3 := Lib.hid h3
          clear h3
          go_enter Try.func22, Try.ntmps22
          go_wp2_with fail
          refine (l00In_yes _ _ _ _ n1 n2).mono ?_; rintro e w' ⟨rfl, rfl⟩
          go_wp2_with fail
          refine (l00In_yes _ _ _ _ k1 k2).mono ?_; rintro e w' ⟨rfl, rfl⟩
          go_wp2_with fail
          refine (l00In_no _ _ _ _ H3.out).mono ?_; rintro e w' ⟨rfl, rfl⟩
          go_wp2_with fail
          go_ret2
          exact ⟨ret_ib (by rw [HV.out, HB.out]) rfl, Below.refl _ _⟩
      · have HV : Hid (cbV n d = 0) := by show _ = _; unfold cbV; rw [if_pos hb, if_neg hm]
        rw [hb]
        have ho : ((n + d).tmod 2 != 0) = true := bne_t hm
        clear hb hm
        generalize cbV n d = V at *
        go_enter Try.func22, Try.ntmps22
        go_wp2_with fail
        refine (l00In_yes _ _ _ _ n1 n2).mono ?_; rintro e w' ⟨rfl, rfl⟩
        go_wp2_with fail
        refine (l00In_yes _ _ _ _ k1 k2).mono ?_; rintro e w' ⟨rfl, rfl⟩
        go_wp2_with fail
        go_ret2
        exact ⟨ret_ib (by rw [HV.out]) rfl, Below.refl _ _⟩
    · have hb : cbOk n d = false := decide_eq_false (fun e => h2 e.2)
      have HV : Hid (cbV n d = 0) := by show _ = _; unfold cbV; rw [if_neg (by rw [hb]; decide)]
      rw [hb]
      generalize cbV n d = V at *
      obtain ⟨n1, n2⟩ := h1
      have H2 := Lib.hid h2
      clear h2 hb
      go_enter Try.func22, Try.ntmps22
      go_wp2_with fail
      refine (l00In_yes _ _ _ _ n1 n2).mono ?_; rintro e w' ⟨rfl, rfl⟩
      go_wp2_with fail
      refine (l00In_no _ _ _ _ H2.out).mono ?_; rintro e w' ⟨rfl, rfl⟩
      go_wp2_with fail
      go_ret2
      exact ⟨ret_ib (by rw [HV.out]) rfl, Below.refl _ _⟩
  · have hb : cbOk n d = false := decide_eq_false (fun e => h1 e.1)
    have HV : Hid (cbV n d = 0) := by show _ = _; unfold cbV; rw [if_neg (by rw [hb]; decide)]
    rw [hb]
    generalize cbV n d = V at *
    have H1 := Lib.hid h1
    clear h1 hb
    go_enter Try.func22, Try.ntmps22
    go_wp2_with fail
    refine (l00In_no _ _ _ _ H1.out).mono ?_; rintro e w' ⟨rfl, rfl⟩
    go_wp2_with fail
    go_ret2
    exact ⟨ret_ib (by rw [HV.out]) rfl, Below.refl _ _⟩

theorem cb_impl (n d : Int) (w : World) :
    Calls Try.prog 23 #[.int .i64 n, .int .i64 d] w fun e w' => e = .returned (.tuple #[.int .i64 (cbV n d), .bool (cbOk n d)]) ∧ Below w.heap.size w w' := by
  by_cases h1 : 0 ≤ n ∧ n ≤ 12
  · by_cases h2 : -12 ≤ d ∧ d ≤ 12
    · have hb : cbOk n d = true := decide_eq_true ⟨h1, h2⟩
      obtain ⟨n1, n2⟩ := h1
      obtain ⟨k1, k2⟩ := h2
      by_cases hm : (n + d).tmod 2 = 0
      · have HV : Hid (cbV n d = binV n ((n + d).tdiv 2)) := by show _ = _; unfold cbV; rw [if_pos hb, if_pos hm]
        have hqb : -6 ≤ (n + d).tdiv 2 ∧ (n + d).tdiv 2 ≤ 12 := by have := Int.mul_tdiv_add_tmod (n + d) 2; omega
        rw [hb]
        clear hb
        generalize cbV n d = V at *
        generalize hq : (n + d).tdiv 2 = q at *
        have HC := Lib.hid (fun W => bin_impl n q W)
        generalize binV n q = U at *
        generalize binOk n q = B at *
        go_enter Try.func23, Try.ntmps23
        go_wp2_with fail
        refine (btw_yes _ _ _ _ n1 n2).mono ?_; rintro e w' ⟨rfl, rfl⟩
        go_wp2_with fail
        refine (btw_yes _ _ _ _ k1 k2).mono ?_; rintro e w' ⟨rfl, rfl⟩
        go_wp2_with fail
        refine (HC.out _).mono ?_; rintro e w1 ⟨rfl, hb⟩
        have HBB := Lib.hid hb
        clear hb
        go_wp2_with fail
        go_ret2
        exact ⟨ret_ib (by rw [HV.out]) rfl, HBB.out⟩
      · have HV : Hid (cbV n d = 0) := by show _ = _; unfold cbV; rw [if_pos hb, if_neg hm]
        rw [hb]
        have ho : ((n + d).tmod 2 != 0) = true := bne_t hm
        clear hb hm
        generalize cbV n d = V at *
        go_enter Try.func23, Try.ntmps23
        go_wp2_with fail
        refine (btw_yes _ _ _ _ n1 n2).mono ?_; rintro e w' ⟨rfl, rfl⟩
        go_wp2_with fail
        refine (btw_yes _ _ _ _ k1 k2).mono ?_; rintro e w' ⟨rfl, rfl⟩
        go_wp2_with fail
        go_ret2
        exact ⟨ret_ib (by rw [HV.out]) rfl, Below.refl _ _⟩
    · have hb : cbOk n d = false := decide_eq_false (fun e => h2 e.2)
      have HV : Hid (cbV n d = 0) := by show _ = _; unfold cbV; rw [if_neg (by rw [hb]; decide)]
      rw [hb]
      generalize cbV n d = V at *
      obtain ⟨n1, n2⟩ := h1
      have H2 := Lib.hid h2
      clear h2 hb
      go_enter Try.func23, Try.ntmps23
      go_wp2_with fail
      refine (btw_yes _ _ _ _ n1 n2).mono ?_; rintro e w' ⟨rfl, rfl⟩
      go_wp2_with fail
      refine (btw_no _ _ _ _ H2.out).mono ?_; rintro e w' ⟨rfl, rfl⟩
      go_wp2_with fail
      go_ret2
      exact ⟨ret_ib (by rw [HV.out]) rfl, Below.refl _ _⟩
  · have hb : cbOk n d = false := decide_eq_false (fun e => h1 e.1)
    have HV : Hid (cbV n d = 0) := by show _ = _; unfold cbV; rw [if_neg (by rw [hb]; decide)]
    rw [hb]
    generalize cbV n d = V at *
    have H1 := Lib.hid h1
    clear h1 hb
    go_enter Try.func23, Try.ntmps23
    go_wp2_with fail
    refine (btw_no _ _ _ _ H1.out).mono ?_; rintro e w' ⟨rfl, rfl⟩
    go_wp2_with fail
    go_ret2
    exact ⟨ret_ib (by rw [HV.out]) rfl, Below.refl _ _⟩
end Go.Proofs.Ytnlnoookpcplgaa
