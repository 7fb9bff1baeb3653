/- The model's SelfDescramble. -/
import Derived.Test.YtjmaapbodacggaaSbd
namespace Go.Proofs.Ytjmaapbodacggaa
open Go Go.RowKit
set_option linter.unusedVariables false
set_option maxRecDepth 100000 in
set_option maxHeartbeats 1000000 in
theorem selfDescramble_spec (w : World) (v : Value) (l : List Int) (s g : ByteArray) (hb : ∀ n ∈ l, -9223372036854775808 ≤ n ∧ n ≤ 9223372036854775807) (hs : s.size ≤ maxLen) (hg : g.size ≤ maxLen) (h : Rd w v l) :
    Calls Try.prog 46 #[.agg #[v, .string s], .string g] w fun e w' =>
      e = .returned (.tuple #[.string (scbV true l s.data.toList g.data.toList), .bool (scbOk l s.data.toList g.data.toList)]) ∧ Below w.heap.size w w' := by
  have hB : Below w.heap.size w (w.alloc (.cells #[v, .string s] 51)) := (Below.refl _ _).alloc (Nat.le_refl _) _
  have hbk : Bk (w.alloc (.cells #[v, .string s] 51)) w.heap.size (scV v s) := Bk.new w (scV v s) 51 _ rfl
  have HI := Lib.hid (l06Is_any _ w.heap.size v s l hb hs hbk (h.keep hB))
  have HIB := Lib.hid (fun W => l01Bits_any g W hg)
  have HDE := Lib.hid (fun W h1 h2 h3 h4 => l06Descramble_any W w.heap.size v l s g h1 h2 h3 h4)
  have HB := Lib.hid hB
  have HBK := Lib.hid hbk
  have HRD := Lib.hid (h.keep hB)
  have hE : scbOk l s.data.toList g.data.toList = (scOk l s.data.toList && isB g.data.toList) := rfl
  obtain ⟨A1, c1, rfl⟩ := rd_shp h
  obtain ⟨n1, hn1⟩ : ∃ n1, n1 = l.length := ⟨_, rfl⟩
  rw [← hn1] at HBK HB HRD HI HDE ⊢
  clear h hB hbk hn1 hb hs hg
  cases hok : scOk l s.data.toList
  · rw [hok, Bool.false_and] at hE
    rw [scbV_no hE, hE]
    rw [hok] at HI
    clear hE hok HIB HDE
    go_enter Try.func46, Try.ntmps46
    go_wp2_with fail
    refine HI.out.mono ?_; rintro e w1 ⟨rfl, q, rfl⟩
    go_wp2_with fail
    go_ret2
    exact ⟨rfl, below_drewN HB.out q⟩
  · rw [hok, Bool.true_and] at hE
    rw [hok] at HI
    cases hok2 : isB g.data.toList
    · rw [hok2] at hE HIB
      rw [scbV_no hE, hE]
      clear hE hok hok2 HDE
      go_enter Try.func46, Try.ntmps46
      go_wp2_with fail
      refine HI.out.mono ?_; rintro e w1 ⟨rfl, q, rfl⟩
      go_wp2_with fail
      refine (HIB.out _).mono ?_; rintro e w2 ⟨rfl, rfl⟩
      go_wp2_with fail
      go_ret2
      exact ⟨rfl, below_drewN HB.out q⟩
    · rw [hok2] at hE HIB
      rw [scbV_yes hE, hE]
      have HD2 := Lib.hid (fun W h3 h4 => HDE.out W hok hok2 h3 h4)
      generalize (⟨(scbL true l s.data.toList g.data.toList).toArray⟩ : ByteArray) = LL at *
      clear hE hok hok2 HDE
      go_enter Try.func46, Try.ntmps46
      go_wp2_with fail
      refine HI.out.mono ?_; rintro e w1 ⟨rfl, q, rfl⟩
      go_wp2_with fail
      refine (HIB.out _).mono ?_; rintro e w2 ⟨rfl, rfl⟩
      go_wp2_with fail
      refine (HD2.out _ (HBK.out.drewN q) (HRD.out.drewN q)).mono ?_; rintro e w3 ⟨rfl, hb3⟩
      have HB3 := Lib.hid ((below_drewN HB.out q).trans (hb3.mono (below_drewN HB.out q).size))
      clear hb3
      go_wp2_with fail
      go_ret2
      exact ⟨rfl, HB3.out⟩
end Go.Proofs.Ytjmaapbodacggaa
