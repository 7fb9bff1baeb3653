/- The key: its sequence (plain); the iterator alongKey. -/
import Derived.Test.YtddlpbpcdjddpaaRfe
import Derived.Test.YtddlpbpcdjddpaaScb
namespace Go.Proofs.Ytddlpbpcdjddpaa
open Go Go.RowKit Go.Shelf
set_option linter.unusedVariables false
attribute [local go_sem] Oper.semAt_some
/-- The sequence behind the state, with so many bits of the key. -/
def kq (l : List Int) (q : List Nat) : Nat → List Nat
  | 0 => q
  | k + 1 => kq l q k ++ [sm l (kq l q k)]
theorem kq_ok {l : List Int} {q : List Nat} (hq : bitsN q) : ∀ k, bitsN (kq l q k) ∧ (kq l q k).length = q.length + k
  | 0 => ⟨hq, rfl⟩
  | k + 1 => by
    obtain ⟨h1, h2⟩ := kq_ok hq k
    exact ⟨bitsN_app h1 (bitsN_one (sm_le h1 l)), by simp [kq, h2]; omega⟩
/-- The bits of the key. -/
def kb (l : List Int) (q : List Nat) (k : Nat) : List Nat := (kq l q k).drop q.length
theorem kb_zero (l : List Int) (q : List Nat) : kb l q 0 = [] := by simp [kb, kq]
theorem kb_succ {l : List Int} {q : List Nat} (hq : bitsN q) (k : Nat) : kb l q (k + 1) = kb l q k ++ [sm l (kq l q k)] := by
  unfold kb
  rw [show kq l q (k + 1) = kq l q k ++ [sm l (kq l q k)] from rfl, List.drop_append_of_le_length (by rw [(kq_ok hq k).2]; omega)]
theorem kb_len {l : List Int} {q : List Nat} (hq : bitsN q) (k : Nat) : (kb l q k).length = k := by
  unfold kb
  rw [List.length_drop, (kq_ok hq k).2]; omega
theorem kb_bits {l : List Int} {q : List Nat} (hq : bitsN q) (k : Nat) : bitsN (kb l q k) := fun x hx => (kq_ok hq k).1 x (List.mem_of_mem_drop hx)
/-- Where the next bit comes. -/
def km (l : List Int) (q : List Nat) (k : Nat) : Nat := (kq l q k).length % 16
/-- What alongKey hands out. -/
def kEnc (l : List Int) (q : List Nat) (T : Nat) (sz : Int) (k : Nat) : Array Value := #[.int .i64 k, .agg #[.int .u16 (rg (kq l q k)), .int .u16 T, .int .i64 sz, .int .i64 (km l q k : Nat)]]

theorem alongKey_any (x t : Nat) (wd n : Int) (w : World) :
    Calls Try.prog 53 #[.agg #[.int .u16 x, .int .u16 t, .int .i64 wd, .int .i64 n]] w fun e w' => e = .returned (.func (.func 78) #[] #[.pointer (some ⟨w.heap.size, 0, none⟩)]) ∧ w' = w.alloc (.cells #[.int .u16 x, .int .u16 t, .int .i64 wd, .int .i64 n] 67) := by
  go_enter Try.func53, Try.ntmps53
  go_wp2_with fail
  go_ret
  exact ⟨rfl, rfl⟩

set_option maxRecDepth 100000 in
set_option maxHeartbeats 2000000 in
theorem alongKey_endless (m : Nat) (hm : 1 ≤ m) (M B b : Nat) (w : World) (l : List Int) (q : List Nat) (sz : Int) (ht : tpOk l = true) (hq : bitsN q) (hw : wid l ≤ (q.length : Int)) (hBlk : Blk w B 67 (rgV (rg (kq l q 0)) (tm l) sz (km l q 0 : Nat))) (hM : M ≤ 4000000000) (hb : b < w.heap.size) :
    Endless Fence.wide m Try.prog 78 #[.pointer (some ⟨B, 0, none⟩)] (kEnc l q (tm l) sz) M w.heap.size b w := by
  intro J Jx ll W hWz hWb hJM hJr hJb hY h0
  have htm : tm l < 65536 := tmF_lt l 0 (by omega) (fun t h => (of_decide_eq_true (List.all_eq_true.1 (tpOk_parts ht).2.2 t h) : 1 ≤ t ∧ t ≤ 16).1)
  have HSU := Lib.hid (fun k W => sum_any (rg (kq l q k)) (tm l) (km l q k) sz (rg_lt _) htm (Nat.mod_lt _ (by omega)) W)
  have HSM := Lib.hid (fun k => ring_sum (l := l) (q := kq l q k) ht (kq_ok hq k).1 (by rw [(kq_ok hq k).2]; omega))
  have HSL := Lib.hid (fun k => sm_le (kq_ok (l := l) hq k).1 l)
  have HPU := Lib.hid (fun k (y : Nat) hy W h => push_any (rg (kq l q k)) (tm l) (km l q k) y (w.heap.size + 2) sz (rg_lt _) (Nat.mod_lt _ (by omega)) hy W h)
  have HRS := Lib.hid (fun k => rg_snoc (kq l q k) (sm l (kq l q k)))
  have hBW : Blk W B 67 (rgV (rg (kq l q 0)) (tm l) sz (km l q 0 : Nat)) := hBlk.below hWb hBlk.lt
  have HJM := Lib.hid hJM
  have HJR := Lib.hid hJr
  have HJB := Lib.hid hJb
  have HY := Lib.hid hY
  obtain ⟨V, hV⟩ : ∃ V, V = W.alloc (.cells #[.int .u16 (rg (kq l q 0)), .int .u16 (tm l), .int .i64 sz, .int .i64 (km l q 0 : Nat)] 67) := ⟨_, rfl⟩
  have hV0 : J 0 V := hJb 0 W V h0 (by rw [hV]; exact (Below.refl _ _).alloc (Nat.le_refl _) _)
  have hVB : Blk V (w.heap.size + 2) 67 (rgV (rg (kq l q 0)) (tm l) sz (km l q 0 : Nat)) := by rw [hV]; exact Blk.new W (rgV (rg (kq l q 0)) (tm l) sz (km l q 0 : Nat)) _ _ hWz.symm
  have hVz : w.heap.size + 3 ≤ V.heap.size := by rw [hV]; simp [hWz]
  have HV := Lib.hid (And.intro hV0 (And.intro hVB hVz))
  have HVE := Lib.hid hV
  obtain ⟨q0, q1, q2, q3⟩ := rgb_all hBW
  have HWZ := Lib.hid hWz
  clear hJM hJr hJb hY hV hV0 hVB hVz hBW h0 hWb
  refine callsIn_of_wp Try.func78 rfl trivial ?_ rfl
  simp only [Try.ntmps78, List.size_toArray, List.length_cons, List.length_nil, Nat.reduceAdd, Nat.reduceSub, Array.replicate_succ, Array.replicate_zero, List.push_toArray, List.append_toArray, List.nil_append, List.cons_append]
  gi_wp2_with fail
  rw [← HVE.out]
  clear q0 q1 q2 q3
  gi_loopw [4] (fun i wr => ∃ k : Nat, i = .int .i64 k ∧ J k wr ∧ Blk wr (w.heap.size + 2) 67 (rgV (rg (kq l q k)) (tm l) sz (km l q k : Nat)) ∧ w.heap.size + 3 ≤ wr.heap.size) (fun i _ => M + 1 - (intOf i).toNat)
  case atStart => exact ⟨0, rfl, HV.out.1, HV.out.2.1, HV.out.2.2⟩
  case round =>
    obtain ⟨k, rfl, hj, hbk, hsz⟩ := hrel
    have hkM := HJM.out k wr hj
    obtain ⟨fn, tmps, assign, body, hy, hR⟩ := HY.out k wr hj hsz
    dsimp only [kEnc] at hy
    obtain ⟨r0, r1, r2, r3⟩ := rgb_all hbk
    have HRR := Lib.hid hR
    have HBK := Lib.hid hbk
    have HSZ := Lib.hid hsz
    clear hR hbk hsz hj HV
    have HSC := Lib.hid (HSU.out k)
    rw [show pop (rg (kq l q k) &&& rot (tm l) (km l q k)) % 2 = sm l (kq l q k) from HSM.out k] at HSC
    have hsl := HSL.out k
    have HPK := Lib.hid (HPU.out k (sm l (kq l q k)) hsl)
    have HRK := Lib.hid (HRS.out k)
    have HKK : Hid (kq l q (k + 1) = kq l q k ++ [sm l (kq l q k)]) := rfl
    have HKM : Hid (km l q (k + 1) = (km l q k + 1) % 16) := by
      show _ = _
      unfold km
      rw [HKK.out, List.length_append, List.length_singleton]
      omega
    have HJ1 := Lib.hid (HJM.out (k + 1))
    generalize sm l (kq l q k) = z at *
    gi_wp2_with fail
    refine HRR.out.mono ?_
    rintro e W5 (⟨rfl, hj5, hc5⟩ | ⟨rfl, hjx5⟩)
    · have HJ5 := Lib.hid hj5
      have hk5 : k + 1 ≤ M := HJ1.out W5 hj5
      have HB5 := Lib.hid (HBK.out.chg hc5 (by omega) (by omega))
      have HZ5 : Hid (w.heap.size + 3 ≤ W5.heap.size) := Nat.le_trans HSZ.out hc5.size
      clear hj5 hc5 HRR hy r0 r1 r2 r3
      obtain ⟨r0, r1, r2, r3⟩ := rgb_all HB5.out
      gi_wp2_with fail
      refine ⟨trivial, (callsIn_wide.2 (HSC.out _)).mono ?_⟩; rintro e w6 ⟨rfl, hb6⟩
      have HJ6 := Lib.hid (HJB.out _ _ _ HJ5.out hb6)
      have HB6 := Lib.hid (HB5.out.keep hb6)
      have HZ6 : Hid (w.heap.size + 3 ≤ w6.heap.size) := Nat.le_trans HZ5.out hb6.size
      clear hb6 r0 r1 r2 r3 HJ5 HB5 HZ5
      gi_wp2_with fail
      refine ⟨trivial, (callsIn_wide.2 (HPK.out _ HB6.out)).mono ?_⟩; rintro e w7 ⟨rfl, hk7, hg7⟩
      have HJ7 := Lib.hid (HJR.out _ _ _ HJ6.out hg7)
      have HZ7 : Hid (w.heap.size + 3 ≤ w7.heap.size) := Nat.le_trans HZ6.out hg7.size
      have HB7 : Hid (Blk w7 (w.heap.size + 2) 67 (rgV (rg (kq l q (k + 1))) (tm l) sz (km l q (k + 1) : Nat))) := by
        show Blk _ _ _ _
        rw [HKM.out, HKK.out, HRK.out, ← rgS_mod]
        exact hk7
      clear hk7 hg7 HJ6 HB6 HZ6
      gi_wp2_with fail
      go_roundw
      case rel => exact ⟨k + 1, by go_num, HJ7.out, HB7.out, HZ7.out⟩
      case measure => simp [intOf]; omega
    · have HJ5 := Lib.hid hjx5
      clear hjx5 HRR hy
      gi_wp2_with fail
      go_end0
      exact ⟨⟨_, rfl⟩, HJ5.out⟩
end Go.Proofs.Ytddlpbpcdjddpaa
