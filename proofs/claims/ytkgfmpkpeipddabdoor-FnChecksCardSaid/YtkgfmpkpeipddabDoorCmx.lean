/- The program's countMissed. -/
import Derived.Test.YtkgfmpkpeipddabDoorNxm
import Derived.Test.YtkgfmpkpeipddabDoorDvx
import Derived.Lib.OthersKept
namespace Go.Proofs.YtkgfmpkpeipddabDoor
open Go Go.RowKit Go.Shelf
set_option linter.unusedVariables false
attribute [local go_sem] Oper.semAt_some

theorem kpB {w w' : World} (h : Below w.heap.size w w') : KeepsOthers w w' :=
  ⟨h.size, fun k o hk _ => (h.block k (Array.getElem?_eq_some_iff.1 hk).1).trans hk⟩
theorem Bk.grown {W W' : World} {row : Option Nat} {b : Nat} {cs : List Value} (h : Bk W b cs) (h0 : 0 < cs.length) (hg : W.grownBy W' row) (hr : ∀ r, row = some r → ∃ o : Obj, W.heap[r]? = some o ∧ o.isCells = false) : Bk W' b cs :=
  ⟨fun i x hx => cell_kept (h.1 i x hx) hg hr, fun i hi => (frozen_kept (h.1 i _ (List.getElem?_eq_getElem hi)) hg hr).trans (h.2.1 i hi), Nat.lt_of_lt_of_le h.2.2 hg.size⟩
theorem hsetB (W : World) (a : Addr) (v : Value) (k : Nat) (h : k ≠ a.block) : (W.setCell a v).heap[k]? = W.heap[k]? := by
  show (W.heap.modify a.block _)[k]? = _
  rw [Array.getElem?_modify, if_neg (fun e => h e.symm)]
theorem kpS_below {S : Nat} {W W' : World} (h : Below W.heap.size W W') (hs : S + 1 < W.heap.size) : KpS S W W' :=
  ⟨Nat.lt_of_lt_of_le hs h.size, h.block S (by omega), h.block (S + 1) hs⟩

set_option maxRecDepth 100000 in
set_option maxHeartbeats 2000000 in
theorem countMissed_any (b p d L c : Nat) (w : World) (hd : Dv w b p d (tlA p d) 0) (hg : Deg p d) (h16 : d ≤ 16) (hL : L ≤ 32) (hc1 : 1 ≤ c) (hc : c ≤ 4) :
    Calls Tryd.prog 47 #[.pointer (some ⟨b, 0, none⟩), .int .i64 (L : Int), .int .i64 (c : Int)] w fun e w' => e = .returned (.int .i64 ((cmN p d L c : Nat) : Int)) ∧ Below w.heap.size w w' := by
  have HD := Lib.hid hd
  have HROM := Lib.hid (fun m W hd hm => rom_below b p d m W hd hm hg h16)
  have HST := Lib.hid (fun S W k1 k2 => masks_stops 8 (by omega) p d L c S hL hc1 hc W k1 k2)
  clear hd hg h16 hL hc1 hc
  refine (callsIn_wide (n := 9)).1 ?_
  have h1 : 1 ≤ 9 := by omega
  refine callsIn_of_wp_marks Tryd.func47 rfl trivial ?_ rfl
  simp only [Tryd.ntmps47, List.size_toArray, List.length_cons, List.length_nil, Nat.reduceAdd, Nat.reduceSub, Array.replicate_succ, Array.replicate_zero, List.push_toArray, List.append_toArray, List.nil_append, List.cons_append]
  gi_wp2_with fail
  obtain ⟨W2, hW2⟩ : ∃ W2, W2 = (w.alloc (.cells #[.pointer (some ⟨b, 0, none⟩)] 42)).alloc (.cells #[.int .i64 0] 2) := ⟨_, rfl⟩
  have hz2 : W2.heap.size = w.heap.size + 2 := by rw [hW2]; simp
  have B2 : Below w.heap.size w W2 := by rw [hW2]; exact ((Below.refl _ w).alloc (Nat.le_refl _) _).alloc (by simp) _
  have K1 : Bk W2 w.heap.size [.pointer (some ⟨b, 0, none⟩)] := by rw [hW2]; exact (Bk.new w [.pointer (some ⟨b, 0, none⟩)] _ _ rfl).alloc _
  have K2 : Bk W2 (w.heap.size + 1) [.int .i64 ((0 : Nat) : Int)] := by rw [hW2]; exact Bk.new _ [.int .i64 ((0 : Nat) : Int)] _ _ (by simp)
  rw [← hW2]
  clear hW2
  refine ⟨trivial, (callsIn_wide.2 (masksOf_any _ _ _)).mono ?_⟩; rintro e w4 ⟨rfl, rfl⟩
  obtain ⟨W4, hW4⟩ : ∃ W4, W4 = (W2.alloc (.cells #[.int .i64 (L : Int)] 2)).alloc (.cells #[.int .i64 (c : Int)] 2) := ⟨_, rfl⟩
  have HZ4 : Hid (W4.heap.size = w.heap.size + 4) := by show _ = _; rw [hW4]; simp [hz2]
  have HB4 : Hid (Below w.heap.size w W4) := by show Below _ _ _; rw [hW4]; exact (B2.alloc (by omega) _).alloc (by simp [hz2]; omega) _
  have HK1 : Hid (Bk W4 w.heap.size [.pointer (some ⟨b, 0, none⟩)]) := by show Bk _ _ _; rw [hW4]; exact (K1.alloc _).alloc _
  have HK2 : Hid (Bk W4 (w.heap.size + 1) [.int .i64 ((0 : Nat) : Int)]) := by show Bk _ _ _; rw [hW4]; exact (K2.alloc _).alloc _
  have HS1 : Hid (Bk W4 (w.heap.size + 2) [.int .i64 (L : Int)]) := by show Bk _ _ _; rw [hW4]; exact (Bk.new W2 [.int .i64 (L : Int)] _ _ hz2.symm).alloc _
  have HS2 : Hid (Bk W4 (w.heap.size + 2 + 1) [.int .i64 (c : Int)]) := by show Bk _ _ _; rw [hW4]; exact Bk.new _ [.int .i64 (c : Int)] _ _ (by simp [hz2])
  rw [← hW4, hz2]
  clear hW4 B2 K1 K2 hz2
  gi_wp2_with fail
  refine wpIn_rangeFunc_ownF rfl h1 (gf := 64) (lb := #[.pointer (some ⟨w.heap.size + 2 + 1, 0, none⟩), .pointer (some ⟨w.heap.size + 2, 0, none⟩)]) rfl trivial (enters_of Tryd.func64 (by kernel_rfl) rfl)
    (HST.out (w.heap.size + 2) W4 HS1.out HS2.out) kpS_t (kpS_b (by rw [HZ4.out]; omega)) (Below.refl _ _) (fun _ => rfl)
    (fun pre W => Bk W w.heap.size [.pointer (some ⟨b, 0, none⟩)] ∧ Bk W (w.heap.size + 1) [.int .i64 ((cz p d pre : Nat) : Int)] ∧ w.heap.size + 4 ≤ W.heap.size ∧ Below w.heap.size w W)
    (fun _ _ _ => False)
    (OwnFrom.and (Own.from (fun s A B row hs hg hr => hs.grown (by simp) hg hr) _) (OwnFrom.and (Own.from (fun s A B row hs hg hr => hs.grown (by simp) hg hr) _) (OwnFrom.and (fun _ _ _ _ h hg _ => Nat.le_trans h hg.size) (ownFrom_below (Nat.le_refl _) HB4.out.size))))
    (fun _ _ _ _ _ hs _ _ => hs)
    ⟨HK1.out, HK2.out, by rw [HZ4.out]; exact Nat.le_refl _, HB4.out⟩
    (fun x => { tmps := #[.pointer (some ⟨b, 0, none⟩), .int .i64 (L : Int), .int .i64 (c : Int), .pointer (some ⟨w.heap.size, 0, none⟩), undef, undef, .int .i64 0, .pointer (some ⟨w.heap.size + 1, 0, none⟩), .int .u64 ((x.1 : Nat) : Int), .int .i64 (L : Int), .int .i64 (c : Int), .func (.func 64) #[] #[.pointer (some ⟨w.heap.size + 2 + 1, 0, none⟩), .pointer (some ⟨w.heap.size + 2, 0, none⟩)], .int .u64 ((x.1 : Nat) : Int),
      undef, undef, undef, undef, undef, undef, undef], defers := [] }) ?assign ?body ?done ?stop
  case assign =>
    intro l x W K hK
    gi_wp2
    exact hK
  case body =>
    rintro l pre ⟨x, hx⟩ W ⟨k1, k2, hsz, hbl⟩ hplen
    have t1 := k1.c 0 _ rfl
    have HK1 := Lib.hid k1
    have HK2 := Lib.hid k2
    have HSZ := Lib.hid hsz
    have HBL := Lib.hid hbl
    have HR := Lib.hid (HROM.out x W (HD.out.keep hbl) hx)
    have HSN := Lib.hid (cz_snoc p d pre ⟨x, hx⟩)
    have hzb : cz p d pre < 4294967296 := Nat.lt_of_le_of_lt (cz_le p d pre) hplen
    clear k1 k2 hsz hbl hplen HST HS1 HS2
    dsimp only at HSN ⊢
    generalize rd p d x = R at *
    obtain ⟨Z, hZ⟩ : ∃ Z, Z = cz p d pre := ⟨_, rfl⟩
    rw [← hZ] at HSN HK2 hzb
    clear hZ
    by_cases hR : R = 0
    · subst hR
      have HZ2 : Hid (cz p d (pre ++ [(⟨x, hx⟩ : Mk32)]) = Z + 1) := by show _ = _; rw [HSN.out, if_pos rfl]
      have hzw : IntKind.i64.wrap ((Z : Int) + 1) = ((Z + 1 : Nat) : Int) := by rw [IntKind.wrap_i64]; omega
      rw [show ((0 : Nat) : Int) = 0 from rfl] at HR
      clear HSN
      gi_wp2_with fail
      refine ⟨trivial, (CallsIn.inRound l (callsIn_wide.2 HR.out)).mono ?_⟩; rintro e W5 ⟨rfl, hb5⟩
      have HB5 := Lib.hid hb5
      have k5 := HK2.out.keep hb5
      have t5 := k5.c 0 _ rfl
      have f5 := k5.f 0 (by simp)
      have HK5 := Lib.hid (k5.set 0 (by simp) (.int .i64 ((Z + 1 : Nat) : Int)))
      have HA5 := Lib.hid ((HK1.out.keep hb5).far ⟨w.heap.size + 1, 0, none⟩ (by simp) (.int .i64 ((Z + 1 : Nat) : Int)))
      clear hb5 k5 HR t1
      gi_wp2_with fail
      have hs := HSZ.out
      have hs5 := HB5.out.size
      refine ⟨(kpB HB5.out).trans (KeepsOthers.setCell _ _ _), ?_, HA5.out, ?_, ?_, (HBL.out.trans (HB5.out.mono HBL.out.size)).setCell (p := ⟨w.heap.size + 1, 0, none⟩) (by simp) _⟩
      · refine kpS_t (kpS_below HB5.out (by omega)) ⟨?_, hsetB _ _ _ _ (by simp), hsetB _ _ _ _ (by simp)⟩
        simp [World.setCell]; omega
      · rw [HZ2.out]; exact HK5.out
      · simp [World.setCell]; omega
    · have hRn : ((R : Int) == 0) = false := by simpa using (show ¬ (R : Int) = 0 by omega)
      have HZ2 : Hid (cz p d (pre ++ [(⟨x, hx⟩ : Mk32)]) = Z) := by show _ = _; rw [HSN.out, if_neg hR]; rfl
      clear HSN hR
      gi_wp2_with fail
      refine ⟨trivial, (CallsIn.inRound l (callsIn_wide.2 HR.out)).mono ?_⟩; rintro e W5 ⟨rfl, hb5⟩
      have HB5 := Lib.hid hb5
      clear hb5 HR t1
      gi_wp2_with fail
      have hs := HSZ.out
      refine ⟨kpB HB5.out, kpS_below HB5.out (by omega), HK1.out.keep HB5.out, ?_, Nat.le_trans hs HB5.out.size, HBL.out.trans (HB5.out.mono HBL.out.size)⟩
      rw [HZ2.out]; exact HK2.out.keep HB5.out
  case done =>
    rintro D ys W hD hcz ⟨k1, k2, hsz, hbl⟩ hK
    rw [hcz] at k2
    have t2 := k2.c 0 _ rfl
    have HKD := Lib.hid hK
    have HBL := Lib.hid hbl
    have HD4 := Lib.hid hD
    clear k1 k2 hsz hbl hK hD
    gi_wp2_with fail
    refine ⟨by simp, .inl ⟨_, _, rfl, run_takeDeferred HKD.out, ?_⟩⟩
    refine ⟨_, results_tmp rfl _ _ _, ?_⟩
    exact ⟨rfl, HBL.out.trans (belowK_b (w := w) (Nat.le_refl _) W D _ _ (Nat.le_trans HB4.out.size HD4.out) HKD.out rfl rfl)⟩
  case stop =>
    rintro D c pre W _ _ h _
    exact h.elim
end Go.Proofs.YtkgfmpkpeipddabDoor
