/- LeastApart: the model's and the program's. -/
import Derived.Test.YtnpigefbdadjfaaDoorLaj
import Derived.Test.YtnpigefbdadjfaaDoorPbi
import Derived.Test.YtnpigefbdadjfaaDoorMm8
namespace Go.Proofs.YtnpigefbdadjfaaDoor
open Go Go.RowKit Go.Shelf
set_option linter.unusedVariables false

def laOk (r c b : Int) : Bool := sdB r c && decide (2 ≤ b ∧ b ≤ r * c)
def laV (r c b : Int) : Int := if laOk r c b then (lapV r.toNat c.toNat b.toNat : Nat) else 0
theorem la_no {r c b : Int} (h : laOk r c b = false) : laV r c b = 0 := by unfold laV; rw [h]; rfl
theorem la_yes {r c b : Int} (h : laOk r c b = true) : laV r c b = (lapV r.toNat c.toNat b.toNat : Nat) := by unfold laV; rw [h]; rfl
/-- The least of what has been seen. -/
structure MnS (r c b i k v : Nat) : Prop where
  old : ∀ j q, j < i → j < q → q < r * c → q < j + b → v ≤ dfN (pb c r j) (pb c r q)
  row : ∀ q, i < q → q < k → q < r * c → q < i + b → v ≤ dfN (pb c r i) (pb c r q)
  at_ : v = r * c ∨ ∃ j q, j < q ∧ q < r * c ∧ q < j + b ∧ v = dfN (pb c r j) (pb c r q)
theorem MnS.start (r c b : Nat) : MnS r c b 0 1 (r * c) := ⟨fun j q h => by omega, fun q h1 h2 => by omega, .inl rfl⟩
theorem MnS.next {r c b i k v : Nat} (h : MnS r c b i k v) (hi : i < k) (hk : k < r * c) (hb : k < i + b) : MnS r c b i (k + 1) (min v (dfN (pb c r i) (pb c r k))) :=
  ⟨fun j q h1 h2 h3 h4 => Nat.le_trans (Nat.min_le_left _ _) (h.old j q h1 h2 h3 h4), fun q h1 h2 h3 h4 => by
    by_cases e : q = k
    · subst e; exact Nat.min_le_right _ _
    · exact Nat.le_trans (Nat.min_le_left _ _) (h.row q h1 (by omega) h3 h4), by
    by_cases e : v ≤ dfN (pb c r i) (pb c r k)
    · rw [Nat.min_eq_left e]; exact h.at_
    · rw [Nat.min_eq_right (by omega)]; exact .inr ⟨i, k, hi, hk, hb, rfl⟩⟩
theorem MnS.leave {r c b i k v : Nat} (h : MnS r c b i k v) (hk : r * c ≤ k ∨ i + b ≤ k) : MnS r c b (i + 1) (i + 1 + 1) v :=
  ⟨fun j q h1 h2 h3 h4 => by
    by_cases e : j = i
    · subst e; exact h.row q h2 (by omega) h3 h4
    · exact h.old j q (by omega) h2 h3 h4, fun q h1 h2 => by omega, h.at_⟩
theorem MnS.fin {r c b k v : Nat} (h : MnS r c b (r * c) k v) (hr : 0 < r) (hb : 2 ≤ b) (h2 : 2 ≤ r * c) : v = lapV r c b := by
  have h01 := h.old 0 1 (by omega) (by omega) (by omega) (by omega)
  have p1 := pb_lt (r := c) (c := r) (i := 0) hr (by rw [Nat.mul_comm]; omega)
  have p2 := pb_lt (r := c) (c := r) (i := 1) hr (by rw [Nat.mul_comm]; omega)
  rw [Nat.mul_comm c r] at p1 p2
  have := dfN_lt p1 p2
  refine LA.is hr ⟨fun i q a1 a2 a3 => h.old i q (by omega) a1 a2 a3, ?_⟩
  rcases h.at_ with e | e
  · omega
  · exact e
theorem MnS.le {r c b i k v : Nat} (h : MnS r c b i k v) (hr : 0 < r) : v ≤ r * c := by
  rcases h.at_ with e | ⟨j, q, a1, a2, a3, e⟩
  · omega
  · have p1 := pb_lt (r := c) (c := r) (i := j) hr (by rw [Nat.mul_comm]; omega)
    have p2 := pb_lt (r := c) (c := r) (i := q) hr (by rw [Nat.mul_comm]; omega)
    rw [Nat.mul_comm c r] at p1 p2
    have := dfN_lt p1 p2
    omega

set_option maxRecDepth 100000 in
set_option maxHeartbeats 2000000 in
theorem leastApart_impl (r c b : Int) (w : World) (a a2 : Addr) (hv : Ev 0 a w) (hv2 : Ev 1 a2 w) :
    Calls Tryd.prog 50 #[.int .i64 r, .int .i64 c, .int .i64 b] w fun e w' => e = .returned (.tuple #[.int .i64 (laV r c b), .bool (laOk r c b)]) ∧ Below w.heap.size w w' := by
  cases g0 : sdB r c
  · have hb : laOk r c b = false := by unfold laOk; rw [g0]; rfl
    rw [la_no hb, hb]
    have HB := Lib.hid (blockOf_no r c a w hv g0)
    clear g0 hb hv hv2
    go_enter Tryd.func50, Tryd.ntmps50
    go_wp2_with fail
    refine HB.out.mono ?_; rintro e w1 ⟨rfl, hb1⟩
    have B1 := Lib.hid hb1
    clear hb1
    go_wp2_with fail
    go_ret2
    exact ⟨rfl, B1.out.alloc B1.out.size _⟩
  · have HB := Lib.hid (blockOf_yes r c w g0)
    obtain ⟨R, C, rfl, rfl, r1, r2, c1, c2, h4, h5⟩ := sd_nat g0
    have HI := Lib.hid (fun W => is8 b 2 ((R * C : Nat) : Int) W)
    have HP := Lib.hid (fun W => places_any R C W h4)
    by_cases hi : 2 ≤ b ∧ b ≤ ((R * C : Nat) : Int)
    · have hb : laOk (R : Int) (C : Int) b = true := by unfold laOk; rw [g0, ← Int.natCast_mul, decide_eq_true hi]; rfl
      rw [la_yes hb, hb]
      rw [decide_eq_true hi] at HI
      obtain ⟨B, rfl⟩ := Int.eq_ofNat_of_zero_le (show 0 ≤ b by omega)
      rw [Int.toNat_natCast, Int.toNat_natCast, Int.toNat_natCast]
      have HDF := Lib.hid (fun W => differences_any (R : Int) (C : Int) (B : Int) W)
      have HIN := Lib.hid (fun S c l n0 J Jx W hJ hY hS hc h00 hd h0 => diffs_in 8 (by omega) R C B S c l n0 r1 r2 c1 c2 (by omega) (by omega) J Jx W hJ hY hS hc h00 hd h0)
      have HLE := Lib.hid (fun ys h => @DfS.least R C B ys h r1 (by omega) (by omega))
      have HV2 := Lib.hid hv2
      generalize ((R * C : Nat) : Int) = M at *
      clear g0 hb hi r1 r2 c1 c2 h4 h5 hv hv2
      go_enter Tryd.func50, Tryd.ntmps50
      go_wp2_with fail
      refine HB.out.mono ?_; rintro e w1 ⟨rfl, hb1⟩
      have K1 := Lib.hid (Bk.new w1 [.int .i64 (R : Int), .int .i64 (C : Int)] 128 _ rfl)
      have B1 := Lib.hid (hb1.alloc hb1.size (.cells #[.int .i64 (R : Int), .int .i64 (C : Int)] 128))
      have q0 := K1.out.c 0 _ rfl
      have q1 := K1.out.c 1 _ rfl
      clear hb1
      go_wp2_with fail
      refine (HP.out _).mono ?_; rintro e w2 ⟨rfl, hb2⟩
      have B2 := Lib.hid (B1.out.trans (hb2.mono B1.out.size))
      have K2 := Lib.hid (K1.out.keep hb2)
      clear hb2 q0 q1
      go_wp2_with fail
      refine (HI.out _).mono ?_; rintro e w' ⟨rfl, rfl⟩
      have q0 := K2.out.c 0 _ rfl
      have q1 := K2.out.c 1 _ rfl
      go_wp2_with fail
      refine (HDF.out _).mono ?_; rintro e w3 ⟨cc, rfl, hb3, k1, k2, k3⟩
      have hs2 : w2.heap.size < w3.heap.size := k1.2.2
      have hs3 : w2.heap.size + 1 < w3.heap.size := k2.2.2
      have hs4 : cc < w3.heap.size := k3.2.2
      have HDB : Hid (DfB w2.heap.size cc R C B w3) := ⟨k1, k2, k3⟩
      have HE3 := Lib.hid ((HV2.out.keep B2.out).keep hb3)
      have B3 := Lib.hid (B2.out.trans (hb3.mono B2.out.size))
      have HLO := Lib.hid (leastOf_any (fun (c : Nat) => (c : Int)) 142 #[.pointer (some ⟨w2.heap.size, 0, none⟩), .pointer (some ⟨w2.heap.size + 1, 0, none⟩), .pointer (some ⟨cc, 0, none⟩)] (fun ys => DfS R C B (R * C) 0 ys) (fun _ => True) 200000 w3 a2 HE3.out
        (enters_of Tryd.func142 (by kernel_rfl) rfl)
        (fun W hW l J Jx W' hW' hJ hJx hY h0 => HIN.out w2.heap.size cc l w3.heap.size J Jx W' hJ hY hs3 hs4 (Nat.le_trans hW.size hW'.size) ((HDB.out.keep hW).keep hW') h0))
      clear hb3 k1 k2 k3 HDB HE3 HIN HDF HI HP HB q0 q1 hs2 hs3 hs4
      go_wp2_with fail
      refine HLO.out.mono ?_; rintro e w4 ⟨⟨xs, hxs, rfl⟩, hb4⟩
      have HB4 : Hid (Below w.heap.size w w4) := B3.out.trans (hb4.mono B3.out.size)
      obtain ⟨l1, l2⟩ := HLE.out xs hxs
      have l3 : decide (xs.map (fun (c : Nat) => (c : Int)) = []) = false := decide_eq_false (by simpa using l2)
      have HRE := Lib.hid (resultOf_any (lsV (xs.map (fun (c : Nat) => (c : Int)))) a2 (xs.map (fun (c : Nat) => (c : Int))) w4)
      rw [l3, l1] at HRE
      rw [l1]
      obtain ⟨Z, hZ⟩ : ∃ Z, Z = lsE a2 (xs.map (fun (c : Nat) => (c : Int))) := ⟨_, rfl⟩
      rw [← hZ] at HRE ⊢
      clear hb4 hZ hxs l1 l2 l3
      go_wp2_with fail
      refine HRE.out.mono ?_; rintro e w5 ⟨rfl, hb5⟩
      have HB5 : Hid (Below w.heap.size w w5) := HB4.out.trans (hb5.mono HB4.out.size)
      clear hb5
      go_wp2_with fail
      go_ret2
      exact ⟨rfl, HB5.out⟩
    · have hb : laOk (R : Int) (C : Int) b = false := by unfold laOk; rw [← Int.natCast_mul, decide_eq_false hi]; simp
      rw [la_no hb, hb]
      rw [decide_eq_false hi] at HI
      generalize ((R * C : Nat) : Int) = M at *
      clear g0 hb hi r1 r2 c1 c2 h4 h5 hv hv2
      go_enter Tryd.func50, Tryd.ntmps50
      go_wp2_with fail
      refine HB.out.mono ?_; rintro e w1 ⟨rfl, hb1⟩
      have K1 := Lib.hid (Bk.new w1 [.int .i64 (R : Int), .int .i64 (C : Int)] 128 _ rfl)
      have B1 := Lib.hid (hb1.alloc hb1.size (.cells #[.int .i64 (R : Int), .int .i64 (C : Int)] 128))
      have q0 := K1.out.c 0 _ rfl
      have q1 := K1.out.c 1 _ rfl
      clear hb1
      go_wp2_with fail
      refine (HP.out _).mono ?_; rintro e w2 ⟨rfl, hb2⟩
      have B2 := Lib.hid (B1.out.trans (hb2.mono B1.out.size))
      clear hb2 q0 q1
      go_wp2_with fail
      refine (HI.out _).mono ?_; rintro e w' ⟨rfl, rfl⟩
      go_wp2_with fail
      go_ret2
      exact ⟨rfl, B2.out⟩
end Go.Proofs.YtnpigefbdadjfaaDoor
