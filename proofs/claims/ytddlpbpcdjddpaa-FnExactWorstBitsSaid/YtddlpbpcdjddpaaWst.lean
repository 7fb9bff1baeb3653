/- Both WorstBits. -/
import Derived.Test.YtddlpbpcdjddpaaSbe
import Derived.Test.YtddlpbpcdjddpaaScb
import Derived.Lib.Repeat
namespace Go.Proofs.Ytddlpbpcdjddpaa
open Go Go.RowKit
set_option linter.unusedVariables false
def zsT (c : Nat) : List UInt8 := List.replicate c 48
theorem zsT_tx (c : Nat) : tx (List.replicate c 0) = zsT c := by simp [tx, zsT]
theorem zsT_bits (c : Nat) : inR 48 49 (zsT c) = true := by simp [inR, zsT]
theorem zsT_isB {c : Nat} (h : c ≤ 400) : isB (zsT c) = true := by
  unfold isB
  rw [zsT_bits, decide_eq_true (by simpa [zsT] using h)]; rfl
def wbOk (l : List Int) (s : List UInt8) (c : Int) : Bool := scOk l s && decide (0 ≤ c ∧ c ≤ 400)
def wbV (l : List Int) (s : List UInt8) (c : Int) : ByteArray := if wbOk l s c then ⟨(scbL true l s (zsT c.toNat)).toArray⟩ else ⟨#[]⟩
theorem wbV_no {l : List Int} {s : List UInt8} {c : Int} (h : wbOk l s c = false) : wbV l s c = ⟨#[]⟩ := by unfold wbV; rw [h]; rfl
theorem wbV_yes {l : List Int} {s : List UInt8} {c : Int} (h : wbOk l s c = true) : wbV l s c = ⟨(scbL true l s (zsT c.toNat)).toArray⟩ := by unfold wbV; rw [h]; rfl
theorem zsN_bits (c : Nat) : bitsN (List.replicate c 0) := fun x hx => by rw [List.mem_replicate] at hx; omega

set_option maxRecDepth 100000 in
set_option maxHeartbeats 1000000 in
theorem worst_impl (w : World) (v : Value) (l : List Int) (s : ByteArray) (c : Int) (hb : ∀ n ∈ l, -9223372036854775808 ≤ n ∧ n ≤ 9223372036854775807) (hs : s.size ≤ maxLen) (h : Rd w v l) :
    Calls Try.prog 18 #[.agg #[v, .string s], .int .i64 c] w fun e w' =>
      e = .returned (.tuple #[.string (wbV l s.data.toList c), .bool (wbOk l s.data.toList c)]) ∧ Below w.heap.size w w' := by
  have hB : Below w.heap.size w (w.alloc (.cells #[v, .string s] 28)) := (Below.refl _ _).alloc (Nat.le_refl _) _
  have HBK : Hid (Bk (w.alloc (.cells #[v, .string s] 28)) w.heap.size (scV v s)) := Bk.new w (scV v s) 28 _ rfl
  have HB := Lib.hid hB
  have HRD := Lib.hid (h.keep hB)
  by_cases hc : 0 ≤ c ∧ c ≤ 400
  · obtain ⟨n, rfl⟩ : ∃ n : Nat, c = (n : Int) := ⟨c.toNat, by omega⟩
    obtain ⟨hc1, hc2⟩ := hc
    have hn : n ≤ 400 := by omega
    have HSD := Lib.hid (fun W h => selfDescramble_impl W v l s ⟨(zsT n).toArray⟩ hb hs (by show (zsT n).toArray.size ≤ _; unfold maxLen; simp [zsT]; omega) h)
    have hval : scbV true l s.data.toList (zsT n) = wbV l s.data.toList n := by
      unfold scbV wbV wbOk scbOk
      rw [zsT_isB hn, decide_eq_true ⟨hc1, hc2⟩, Bool.and_true, Int.toNat_natCast]
    have hok : scbOk l s.data.toList (zsT n) = wbOk l s.data.toList n := by
      unfold wbOk scbOk
      rw [zsT_isB hn, decide_eq_true ⟨hc1, hc2⟩]
    rw [show (⟨(zsT n).toArray⟩ : ByteArray).data.toList = zsT n from rfl, hval, hok] at HSD
    have HRep : Hid (∀ (W : World), Calls Try.prog 48 #[.string ⟨#[48]⟩, .int .i64 (n : Int)] W fun e w' => e = .returned (.string ⟨(zsT n).toArray⟩) ∧ Below W.heap.size W w') := by
      show ∀ (W : World), _
      intro W
      have h := Try.strings_Repeat ⟨#[48]⟩ n W (by omega) (by show 1 * n ≤ _; omega)
      rw [show (#[48] : Array UInt8).toList = List.replicate 1 48 from rfl, Lib.repeatL_replicate, Nat.mul_one] at h
      exact h
    generalize (⟨(zsT n).toArray⟩ : ByteArray) = Z at *
    generalize wbV l s.data.toList n = V at *
    generalize wbOk l s.data.toList n = O at *
    obtain ⟨A1, c1, rfl⟩ := rd_shp h
    obtain ⟨n1, hn1⟩ : ∃ n1, n1 = l.length := ⟨_, rfl⟩
    rw [← hn1] at HBK HB HRD HSD ⊢
    clear h hB hb hs hn1 hval hok
    go_enter Try.func18, Try.ntmps18
    go_wp2_with fail
    refine (btw_yes _ _ _ _ hc1 hc2).mono ?_; rintro e w' ⟨rfl, rfl⟩
    go_wp2_with fail
    have t0 := HBK.out.drew
    have H0 := Lib.hid (HRD.out.keep (Below.refl _ _).drew)
    have B0 := Lib.hid HB.out.drew
    obtain ⟨q0, q1⟩ := sc_all t0
    go_region_held3 (fun w' => w'.cell? ⟨w.heap.size, 0, none⟩ = some (.slice A1 n1 c1) ∧ w'.cell? ⟨w.heap.size, 1, none⟩ = some (.string s)) ((first | with_reducible exact sc_all t2 | with_reducible exact sc_all t1 | with_reducible exact sc_all t0 | fail))
      (first
        | (go_at_call 48; refine (HRep.out _).mono ?_; rintro e u1 ⟨rfl, hb1⟩; have t1 := t0.keep hb1; have H1 := Lib.hid (H0.out.keep hb1); have B1 := Lib.hid (B0.out.trans (hb1.mono B0.out.size)); obtain ⟨q0, q1⟩ := sc_all t1; clear hb1)
        | (go_at_call 31; refine (HSD.out _ H1.out).mono ?_; rintro e u2 ⟨rfl, hb2⟩; have t2 := t1.keep hb2; have B2 := Lib.hid (B1.out.trans (hb2.mono B1.out.size)); obtain ⟨q0, q1⟩ := sc_all t2; clear hb2)
        | fail)
    all_goals go_wp2_with fail
    all_goals go_ret2
    all_goals exact ⟨rfl, B2.out⟩
  · have e0 : wbOk l s.data.toList c = false := by unfold wbOk; rw [decide_eq_false hc, Bool.and_false]
    rw [wbV_no e0, e0]
    have HC := Lib.hid hc
    obtain ⟨A1, c1, rfl⟩ := rd_shp h
    generalize l.length = n1 at *
    clear h hb hs hB e0 hc HRD HBK
    go_enter Try.func18, Try.ntmps18
    go_wp2_with fail
    refine (btw_no _ _ _ _ HC.out).mono ?_; rintro e w' ⟨rfl, rfl⟩
    go_wp2_with fail
    go_ret2
    exact ⟨rfl, HB.out⟩

set_option maxRecDepth 100000 in
set_option maxHeartbeats 1000000 in
theorem worst_spec (w : World) (v : Value) (l : List Int) (s : ByteArray) (c : Int) (hb : ∀ n ∈ l, -9223372036854775808 ≤ n ∧ n ≤ 9223372036854775807) (hs : s.size ≤ maxLen) (h : Rd w v l) :
    Calls Try.prog 17 #[.agg #[v, .string s], .int .i64 c] w fun e w' =>
      e = .returned (.tuple #[.string (wbV l s.data.toList c), .bool (wbOk l s.data.toList c)]) ∧ Below w.heap.size w w' := by
  obtain ⟨i0, hi, hz0, hz1, hz2⟩ := info_parts Try.infoByte
  have hB : Below w.heap.size w (w.alloc (.cells #[v, .string s] 28)) := (Below.refl _ _).alloc (Nat.le_refl _) _
  have hbk : Bk (w.alloc (.cells #[v, .string s] 28)) w.heap.size (scV v s) := Bk.new w (scV v s) 28 _ rfl
  have HI := Lib.hid (l06Is_any _ w.heap.size v s l hb hs hbk (h.keep hB))
  have HB := Lib.hid hB
  have HBK := Lib.hid hbk
  have HRD := Lib.hid (h.keep hB)
  have HDE := Lib.hid (fun W g h1 h2 h3 h4 => l06Descramble_any W w.heap.size v l s g h1 h2 h3 h4)
  have hE : wbOk l s.data.toList c = (scOk l s.data.toList && decide (0 ≤ c ∧ c ≤ 400)) := rfl
  obtain ⟨A1, c1, rfl⟩ := rd_shp h
  obtain ⟨n1, hn1⟩ : ∃ n1, n1 = l.length := ⟨_, rfl⟩
  rw [← hn1] at HBK HB HRD HI HDE ⊢
  clear h hB hbk hn1 hb hs
  cases hok : scOk l s.data.toList
  · rw [hok, Bool.false_and] at hE
    rw [wbV_no hE, hE]
    rw [hok] at HI
    clear hE hok HDE
    go_enter Try.func17, Try.ntmps17
    go_wp2_with fail
    refine HI.out.mono ?_; rintro e w1 ⟨rfl, q, rfl⟩
    go_wp2_with fail
    go_ret2
    exact ⟨rfl, below_drewN HB.out q⟩
  · rw [hok, Bool.true_and] at hE
    rw [hok] at HI
    by_cases hc : 0 ≤ c ∧ c ≤ 400
    · rw [decide_eq_true hc] at hE
      rw [wbV_yes hE, hE]
      obtain ⟨n, rfl⟩ : ∃ n : Nat, c = (n : Int) := ⟨c.toNat, by omega⟩
      obtain ⟨hc1, hc2⟩ := hc
      have hn : n ≤ 400 := by omega
      have HD2 := Lib.hid (fun W h3 h4 => HDE.out W ⟨(zsT n).toArray⟩ hok (zsT_isB hn) h3 h4)
      have HTX := Lib.hid (fun W v h => l06Text_any W v (List.replicate n 0) (zsN_bits n) (by simp; omega) h)
      rw [zsT_tx] at HTX
      rw [Int.toNat_natCast]
      generalize (⟨(scbL true l s.data.toList (zsT n)).toArray⟩ : ByteArray) = LL at *
      generalize (⟨(zsT n).toArray⟩ : ByteArray) = Z at *
      clear hE hok HDE
      go_enter Try.func17, Try.ntmps17
      go_wp2_with fail
      refine HI.out.mono ?_; rintro e w1 ⟨rfl, q, rfl⟩
      go_wp2_with fail
      refine (l00In_yes _ _ _ _ hc1 hc2).mono ?_; rintro e w2 ⟨rfl, rfl⟩
      have HB1 := Lib.hid (below_drewN HB.out q)
      have HK1 := Lib.hid (HBK.out.drewN q)
      have HR1 := Lib.hid (HRD.out.drewN q)
      clear HB HBK HRD HI
      generalize (w.alloc (.cells #[.slice A1 n1 c1, .string s] 28)).drewN q = W1 at *
      go_wp2_with (at_make; refine wpList_make_full _ rfl _ _ 41 rfl W1.heap.size 5 i0 (.int .u8 0) 1 Try.underlying41 hi hz0 hz1 _ _ _ _ n rfl rfl rfl rfl ?b2 ?b3 (Nat.le_refl _) ?_)
      case b2 => rw [hz2]; omega
      case b3 => unfold maxLen; omega
      intro w3 hown hgrow
      have hb3 : Below W1.heap.size W1 w3 := (Below.refl _ _).grown hgrow (Nat.le_refl _) (by simp)
      rw [toList_madeCells_one] at hown
      have ho3 : OwnN w3 W1.heap.size (.slice (some ⟨W1.heap.size, 0, none⟩) n n) (List.replicate n 0) := by
        unfold OwnN natVals
        rw [List.map_replicate, List.length_replicate]
        exact hown
      have HO3 := Lib.hid ho3.rdn
      have HB3 := Lib.hid hb3
      clear hown hgrow ho3 hb3
      go_wp2_with fail
      refine (HTX.out _ _ HO3.out).mono ?_; rintro e w4 ⟨rfl, hb4⟩
      have HB4 := Lib.hid (HB3.out.trans (hb4.mono HB3.out.size))
      clear hb4
      go_wp2_with fail
      refine (HD2.out _ (HK1.out.keep HB4.out) (HR1.out.keep HB4.out)).mono ?_; rintro e w5 ⟨rfl, hb5⟩
      have HB5 := Lib.hid (HB1.out.trans ((HB4.out.trans (hb5.mono HB4.out.size)).mono HB1.out.size))
      clear hb5
      go_wp2_with fail
      go_ret2
      exact ⟨rfl, HB5.out⟩
    · rw [decide_eq_false hc] at hE
      rw [wbV_no hE, hE]
      have HC := Lib.hid hc
      clear hE hok HDE hc
      go_enter Try.func17, Try.ntmps17
      go_wp2_with fail
      refine HI.out.mono ?_; rintro e w1 ⟨rfl, q, rfl⟩
      go_wp2_with fail
      refine (l00In_no _ _ _ _ HC.out).mono ?_; rintro e w2 ⟨rfl, rfl⟩
      go_wp2_with fail
      go_ret2
      exact ⟨rfl, below_drewN HB.out q⟩
end Go.Proofs.Ytddlpbpcdjddpaa
