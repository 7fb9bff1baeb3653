/- Both WorstBits. -/
import Derived.Test.YtcihogbkfpcfjabSbe
import Derived.Test.YtcihogbkfpcfjabScb
import Derived.Lib.Repeat
namespace Go.Proofs.Ytcihogbkfpcfjab
open Go Go.RowKit
set_option linter.unusedVariables false
def zsT (c : Nat) : List UInt8 := List.replicate c 48
theorem zsT_tx (c : Nat) : tx (List.replicate c 0) = zsT c := by simp [tx, zsT]
theorem zsT_bits (c : Nat) : inR 48 49 (zsT c) = true := by simp [inR, zsT]
theorem zsT_isB {c : Nat} (h : c ≤ 400) : isB (zsT c) = true := by
  unfold isB
  rw [zsT_bits, decide_eq_true (by simpa [zsT] using h)]; rfl
def wbOk (l : List Int) (s : List UInt8) (c : Int) : Bool := scOk l s && decide (0 ≤ c ∧ c ≤ 400)
def wbV (l : List Int) (s : List UInt8) (c : Int) : ByteArray := if wbOk l s c then ⟨(scbL true l s (zsT c.toNat)).toArray⟩ else ⟨#[]⟩
theorem wbV_no {l : List Int} {s : List UInt8} {c : Int} (h : wbOk l s c = false) : wbV l s c = ⟨#[]⟩ := by unfold wbV; rw [h]; rfl
theorem wbV_yes {l : List Int} {s : List UInt8} {c : Int} (h : wbOk l s c = true) : wbV l s c = ⟨(scbL true l s (zsT c.toNat)).toArray⟩ := by unfold wbV; rw [h]; rfl
theorem zsN_bits (c : Nat) : bitsN (List.replicate c 0) := fun x hx => by rw [List.mem_replicate] at hx; omega

set_option maxRecDepth 100000 in
set_option maxHeartbeats 1000000 in
theorem worst_impl (w : World) (v : Value) (l : List Int) (s : ByteArray) (c : Int) (hb : ∀ n ∈ l, -9223372036854775808 ≤ n ∧ n ≤ 9223372036854775807) (hs : s.size ≤ maxLen) (h : Rd w v l) :
    Calls Try.prog 38 #[.agg #[v, .string s], .int .i64 c] w fun e w' =>
      e = .returned (.tuple #[.string (wbV l s.data.toList c), .bool (wbOk l s.data.toList c)]) ∧ Below w.heap.size w w' := by
  have hB : Below w.heap.size w (w.alloc (.cells #[v, .string s] 43)) := (Below.refl _ _).alloc (Nat.le_refl _) _
  have HBK : Hid (Bk (w.alloc (.cells #[v, .string s] 43)) w.heap.size (scV v s)) := Bk.new w (scV v s) 43 _ rfl
  have HB := Lib.hid hB
  have HRD := Lib.hid (h.keep hB)
  by_cases hc : 0 ≤ c ∧ c ≤ 400
  · obtain ⟨n, rfl⟩ : ∃ n : Nat, c = (n : Int) := ⟨c.toNat, by omega⟩
    obtain ⟨hc1, hc2⟩ := hc
    have hn : n ≤ 400 := by omega
    have HSD := Lib.hid (fun W h => selfDescramble_impl W v l s ⟨(zsT n).toArray⟩ hb hs (by show (zsT n).toArray.size ≤ _; unfold maxLen; simp [zsT]; omega) h)
    have hval : scbV true l s.data.toList (zsT n) = wbV l s.data.toList n := by
      unfold scbV wbV wbOk scbOk
      rw [zsT_isB hn, decide_eq_true ⟨hc1, hc2⟩, Bool.and_true, Int.toNat_natCast]
    have hok : scbOk l s.data.toList (zsT n) = wbOk l s.data.toList n := by
      unfold wbOk scbOk
      rw [zsT_isB hn, decide_eq_true ⟨hc1, hc2⟩]
    rw [show (⟨(zsT n).toArray⟩ : ByteArray).data.toList = zsT n from rfl, hval, hok] at HSD
    have HRep : Hid (∀ (W : World), Calls Try.prog 102 #[.string ⟨#[48]⟩, .int .i64 (n : Int)] W fun e w' => e = .returned (.string ⟨(zsT n).toArray⟩) ∧ Below W.heap.size W w') := by
      show ∀ (W : World), _
      intro W
      have h := Try.strings_Repeat ⟨#[48]⟩ n W (by omega) (by show 1 * n ≤ _; omega)
      rw [show (#[48] : Array UInt8).toList = List.replicate 1 48 from rfl, Lib.repeatL_replicate, Nat.mul_one] at h
      exact h
    generalize (⟨(zsT n).toArray⟩ : ByteArray) = Z at *
    generalize wbV l s.data.toList n = V at *
    generalize wbOk l s.data.toList n = O at *
    obtain ⟨A1, c1, rfl⟩ := rd_shp h
    obtain ⟨n1, hn1⟩ : ∃ n1, n1 = l.length := ⟨_, rfl⟩
    rw [← hn1] at HBK HB HRD HSD ⊢
    clear h hB hb hs hn1 hval hok
    go_enter Try.func38, Try.ntmps38
    go_wp2_with fail
    refine (btw_yes _ _ _ _ hc1 hc2).mono ?_; rintro e w' ⟨rfl, rfl⟩
    go_wp2_with fail
    have t0 := HBK.out.drew
    have H0 := Lib.hid (HRD.out.keep (Below.refl _ _).drew)
    have B0 := Lib.hid HB.out.drew
    obtain ⟨q0, q1⟩ := sc_all t0
    go_region_held3 (fun w' => w'.cell? ⟨w.heap.size, 0, none⟩ = some (.slice A1 n1 c1) ∧ w'.cell? ⟨w.heap.size, 1, none⟩ = some (.string s)) ((first | with_reducible exact sc_all t2 | with_reducible exact sc_all t1 | with_reducible exact sc_all t0 | fail))
      (first
        | (go_at_call 102; refine (HRep.out _).mono ?_; rintro e u1 ⟨rfl, hb1⟩; have t1 := t0.keep hb1; have H1 := Lib.hid (H0.out.keep hb1); have B1 := Lib.hid (B0.out.trans (hb1.mono B0.out.size)); obtain ⟨q0, q1⟩ := sc_all t1; clear hb1)
        | (go_at_call 47; refine (HSD.out _ H1.out).mono ?_; rintro e u2 ⟨rfl, hb2⟩; have t2 := t1.keep hb2; have B2 := Lib.hid (B1.out.trans (hb2.mono B1.out.size)); obtain ⟨q0, q1⟩ := sc_all t2; clear hb2)
        | fail)
    all_goals go_wp2_with fail
    all_goals go_ret2
    all_goals exact ⟨rfl, B2.out⟩
  · have e0 : wbOk l s.data.toList c = false := by unfold wbOk; rw [decide_eq_false hc, Bool.and_false]
    rw [wbV_no e0, e0]
    have HC := Lib.hid hc
    obtain ⟨A1, c1, rfl⟩ := rd_shp h
    generalize l.length = n1 at *
    clear h hb hs hB e0 hc HRD HBK
    go_enter Try.func38, Try.ntmps38
    go_wp2_with fail
    refine (btw_no _ _ _ _ HC.out).mono ?_; rintro e w' ⟨rfl, rfl⟩
    go_wp2_with fail
    go_ret2
    exact ⟨rfl, HB.out⟩

end Go.Proofs.Ytcihogbkfpcfjab
