/- The program's turnedTaps. -/
import Derived.Test.YtddlpbpcdjddpaaRvi
import Derived.Test.YtddlpbpcdjddpaaTp
import Derived.Test.YtddlpbpcdjddpaaFkP
namespace Go.Proofs.Ytddlpbpcdjddpaa
open Go Go.RowKit
set_option linter.unusedVariables false
theorem own_ofI {w : World} {base : Nat} {v : Value} {l : List Int} {n : Nat} {xs : List Value} (h : w.ownsRow base 2 1 v n xs) (h1 : n = l.length) (h2 : xs = intVals l) : Own w base v l := by subst h1; subst h2; exact h
theorem below_ints {B base n : Nat} {w wr w1 : World} {e : TypeId} {v : Value} {xs : List Value} {o : Obj} (hb : Below B w wr) (hB : base ≤ wr.heap.size) (hB2 : B ≤ base) (hown : wr.ownsRow base e 1 v n xs) (hg : (wr.alloc o).grownBy w1 v.ownBlock) : Below B w w1 :=
  (hb.alloc (Nat.le_trans hB2 hB) _).grown hg (by simp; omega) (fun k hk => Nat.le_trans hB2 (World.ownsRow.lt hown k hk).1)
theorem rev_at (l : List Int) (t : Nat) (h : t < l.length) : l.reverse[t]'(by simpa using h) = l.getD (l.length - 1 - t) 0 := by
  rw [List.getElem_reverse, List.getD, List.getElem?_eq_getElem (by omega)]; rfl
theorem trL_take (l : List Int) (k : Nat) (hk : k + 1 < l.length) : (trL l).take (k + 2) = (trL l).take (k + 1) ++ [wid l - l[k]] := by
  have hl := trL_len l (by omega)
  rw [List.take_succ_eq_append_getElem (show k + 1 < (trL l).length by omega)]
  congr 1
  have h1 := trL_get l (k + 1) (by omega)
  rw [if_neg (by omega), getD_mem (k + 1) (by omega), Nat.add_sub_cancel, getD_mem k (by omega)] at h1
  rw [h1]

set_option maxRecDepth 100000 in
set_option maxHeartbeats 1000000 in
theorem turned_any (w : World) (v : Value) (l : List Int) (ht : tpOk l = true) (h : Rd w v l) :
    Calls Try.prog 58 #[v] w fun e w' => ∃ v', e = .returned v' ∧ Rd w' v' (trn l) ∧ Below w.heap.size w w' := by
  obtain ⟨i0, hi, hz0, hz1, hz2⟩ := info_parts Try.infoInt
  obtain ⟨h0, hinc, hr⟩ := tpOk_parts ht
  have hlen := tp_len hinc hr
  have hW := tpOk_wid ht
  have HTK := Lib.hid (fun k hk => trL_take l k hk)
  have HTL := Lib.hid (trL_len l h0)
  have HDM : Hid (∀ k (hk : k + 1 < l.length), 1 ≤ l[k] ∧ l[k] ≤ 16) := by
    show ∀ _ _, _
    intro k hk
    have := tpOk_le ht k (by omega)
    omega
  have HWD := Lib.hid (widthOf_any w v l h0 h)
  have HT1 : Hid ((trL l).take (0 + 1) = [wid l]) := rfl
  have HRD := Lib.hid h
  obtain ⟨A, c, rfl⟩ := rd_shp h
  obtain ⟨n, hn⟩ : ∃ n, n = l.length := ⟨_, rfl⟩
  rw [← hn] at HRD HWD hlen h0 HTL ⊢
  have HN := Lib.hid hn
  clear h ht hinc hr hn
  have hc : (n : Int) ≤ (c : Int) := by
    obtain ⟨A', n', c', e, hn, h1, -, -⟩ := HRD.out
    injection e with e1 e2 e3
    omega
  have hm1 : (0 : Int) ≤ (n : Int) - 1 := by omega
  have hm2 : (n : Int) - 1 ≤ (n : Int) := by omega
  have hm3 : (n : Int) - 1 ≤ (c : Int) := by omega
  have hm4 : ((n : Int) - 1).toNat = n - 1 := by omega
  have hm5 : ((n - 1 : Nat) : Int) = (n : Int) - 1 := by omega
  have hw0 : IntKind.i64.wrap ((n : Int) - 1) = (n : Int) - 1 := IntWalk.i64_in _ (by omega)
  go_enter Try.func58, Try.ntmps58
  go_wp2_with fail
  refine HWD.out.mono ?_; rintro e w1 ⟨rfl, q, rfl⟩
  have HR1 := Lib.hid (HRD.out.drewN q)
  have HB1 : Hid (Below w.heap.size w (w.drewN q)) := below_drewN (Below.refl _ _) q
  generalize w.drewN q = W1 at *
  have HOW : Hid (Own (W1.alloc (.cells #[.int .i64 (wid l)] 2)) W1.heap.size (.slice (some ⟨W1.heap.size, 0, none⟩) 1 1) ((trL l).take (0 + 1))) := by
    show Own _ _ _ _
    rw [HT1.out]
    show World.ownsRow _ _ 2 1 _ 1 (intVals [wid l])
    exact ⟨by simp [intVals], .inr ⟨W1.heap.size, 1, #[.int .i64 (wid l)], rfl, Nat.le_refl _, heap_alloc_new W1 _, Nat.le_refl _, by decide, rfl, by simp [intVals]⟩⟩
  generalize wid l = Wd at *
  clear HRD HWD
  go_wp2_with fail
  go_loopw [4, 17] (fun v i wr => ∃ k : Nat, k ≤ n - 1 ∧ i = .int .i64 k ∧ Own wr W1.heap.size v ((trL l).take (k + 1)) ∧ Below W1.heap.size W1 wr) (fun _ i _ => n - (intOf i).toNat)
  case atStart => exact ⟨0, by omega, rfl, HOW.out, (Below.refl _ _).alloc (Nat.le_refl _) _⟩
  case round =>
    obtain ⟨k, hk, rfl, hown, hbw⟩ := hrel
    by_cases hlt : k + 1 < n
    · have hr := HR1.out.keep hbw
      obtain ⟨A', n', c', e', hn', -, -, r⟩ := hr
      injection e' with e1 e2 e3
      subst e1; subst e2; subst e3
      obtain ⟨b, o, rfl, hlt0, hcc⟩ := r (by omega)
      have hkl : k < l.length := by have := HN.out; omega
      have hc0 := hcc k hkl
      have hk0 : (0 : Int) ≤ (k : Int) := by omega
      have hk1 : (k : Int) < (n : Int) - 1 := by omega
      have hT := HTK.out k (by have := HN.out; omega)
      have hy16 := HDM.out k (by have := HN.out; omega)
      obtain ⟨y, hy⟩ : ∃ y, l[k] = y := ⟨_, rfl⟩
      rw [hy] at hc0 hT hy16
      have HT2 := Lib.hid hT
      have hlen2 : ((trL l).take (k + 1)).length = k + 1 := by rw [List.length_take, HTL.out]; omega
      have hw1 : IntKind.i64.wrap (Wd - y) = Wd - y := IntWalk.i64_in _ (by omega)
      clear r hn' hcc hT hy
      go_wp2_with (at_builtin; refine wpList_append_own _ rfl _ _ 22 rfl W1.heap.size 2 i0 (.int .i64 0) 1 8 Try.underlying22 hi hz0 hz1 hz2 rfl (by decide) _ _ _ rfl (hown.alloc _) ⟨wr.heap.size, 0, none⟩ 1 1 [.int .i64 (Wd - y)] rfl rfl ?c1 ?c2 ?c3 ?c4 ?c5 ?_)
      case c1 => exact cell_one_new _ _ _
      case c2 => intro u hu; simp at hu; subst hu; rfl
      case c3 => rw [hlen2]; unfold maxLen; omega
      case c4 => rw [hlen2]; omega
      case c5 => have := hbw.size; simp at this ⊢; omega
      intro v1 w1 hown1 hgrow1 _
      have hb1 := below_ints hbw hbw.size (Nat.le_refl _) hown hgrow1
      have ho1 : Own w1 W1.heap.size v1 ((trL l).take (k + 2)) := by
        refine own_ofI hown1 ?_ ?_
        · rw [HT2.out, List.length_append, hlen2]; rfl
        · rw [HT2.out]; simp [intVals]
      clear hown hgrow1 hown1 hc0
      go_wp2_with fail
      go_roundw
      case rel => exact ⟨k + 1, by omega, by go_num, ho1, hb1⟩
      case measure => simp [intOf]; omega
    · obtain rfl : k = n - 1 := by omega
      have hfull : (trL l).take (n - 1 + 1) = trL l := List.take_of_length_le (by rw [HTL.out]; omega)
      rw [hfull] at hown
      rcases hown.2 with ⟨rfl, h0'⟩ | ⟨g, cap, cur, rfl, hg1, hg, hg2, hg3, hg4, hg5⟩
      · rw [HTL.out] at h0'; omega
      · have HRV := Lib.hid (reverseI_any wr g cap (trL l) (by rw [HTL.out]; omega) (fun t ht => by
          have := (World.ownsRow.cellAt (w := wr) (base := W1.heap.size) hown t (by omega)).trans (intVals_at (trL l) t ht)
          rw [this, getD_mem t ht]) (fun t _ => Lib.frozen_of_heap hg t))
        have hglt : g < wr.heap.size := by
          rcases Nat.lt_or_ge g wr.heap.size with h' | h'
          · exact h'
          · rw [Array.getElem?_eq_none h'] at hg; cases hg
        rw [HTL.out] at HRV hg2 ⊢
        have HBW := Lib.hid hbw
        clear hown hfull hbw hg hg4 hg5
        go_wp2_with fail
        refine HRV.out.mono ?_; rintro e w2 ⟨rfl, hrv, hb2, hsz⟩
        have HRV2 := Lib.hid hrv
        have HB2 := Lib.hid hb2
        have HSZ := Lib.hid hsz
        clear hrv hb2 hsz
        go_wp2_with fail
        go_ret
        refine ⟨_, rfl, ⟨_, n, cap, rfl, ?_, hg2, hg3, fun _ => ⟨g, 0, rfl, by have := HSZ.out; omega, fun i hi => ?_⟩⟩, HB1.out.trans ((HBW.out.trans (HB2.out.mono hg1)).mono HB1.out.size)⟩
        · rw [trn_len l (by have := HN.out; omega)]; exact HN.out.symm
        · have hi' : i < (trL l).length := by simpa [trn] using hi
          rw [Nat.zero_add, HRV2.out i hi']
          exact congrArg (fun x => some (Value.int .i64 x)) (rev_at (trL l) i hi').symm
end Go.Proofs.Ytddlpbpcdjddpaa
