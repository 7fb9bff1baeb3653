/- Several texts in one: Plain: a sum of two fractions in lowest terms is in lowest terms; the sum of a list. | The model's sum of valid fractions. | The model's sum of a list of valid fractions. | Both SumFractions. -/
import Derived.Test.YtnpigefbdadjfaaDoorAdJ
import Derived.Test.YtnpigefbdadjfaaDoorSfA
import Derived.Test.YtnpigefbdadjfaaDoorAdS
namespace Go.Proofs.YtnpigefbdadjfaaDoor
open Go Go.RowKit
set_option linter.unusedVariables false

theorem cop_sum (P gn : Int) (a ea eb : Nat) (hP : P.natAbs = a * ea) (h1 : Nat.gcd a eb = 1) (h2 : Nat.gcd ea eb = 1) : Nat.gcd (P + gn * (eb : Int)).natAbs eb = 1 := by
  have p1 : Nat.gcd (P + gn * (eb : Int)).natAbs eb ∣ eb := Nat.gcd_dvd_right _ _
  have p2 : ((Nat.gcd (P + gn * (eb : Int)).natAbs eb : Nat) : Int) ∣ P + gn * (eb : Int) := Int.ofNat_dvd_left.2 (Nat.gcd_dvd_left _ _)
  generalize Nat.gcd (P + gn * (eb : Int)).natAbs eb = p at *
  have p3 : (p : Int) ∣ gn * (eb : Int) := Int.dvd_trans (Int.natCast_dvd_natCast.2 p1) (Int.dvd_mul_left _ _)
  have p4 : (p : Int) ∣ P := (Int.dvd_add_left p3).1 p2
  have p5 : p ∣ a * ea := by rw [← hP]; exact Int.ofNat_dvd_left.1 p4
  have c1 : Nat.Coprime p a := Nat.Coprime.coprime_dvd_left p1 (Nat.Coprime.symm h1)
  have p6 : p ∣ ea := c1.dvd_of_dvd_mul_left p5
  have p7 : p ∣ 1 := by rw [← h2]; exact Nat.dvd_gcd p6 p1
  exact Nat.dvd_one.1 p7
/-- Knuth: the sum is in lowest terms. -/
theorem ad_low (fn gn : Int) (fd gd : Nat) (hf : Nat.gcd fn.natAbs fd = 1) (hg : Nat.gcd gn.natAbs gd = 1) (f0 : 0 < fd) (g0 : 0 < gd) : 0 < adM fn gn fd gd ∧ Nat.gcd (adN fn gn fd gd).natAbs (adM fn gn fd gd).natAbs = 1 := by
  have hd0 : 0 < Nat.gcd fd gd := Nat.gcd_pos_of_pos_left _ f0
  obtain ⟨d, hd⟩ : ∃ d, d = Nat.gcd fd gd := ⟨_, rfl⟩
  obtain ⟨ea, hea⟩ : ∃ ea, ea = gd / Nat.gcd fd gd := ⟨_, rfl⟩
  obtain ⟨eb, heb⟩ : ∃ eb, eb = fd / Nat.gcd fd gd := ⟨_, rfl⟩
  have e1 : fd = eb * d := by rw [heb, hd]; exact (Nat.div_mul_cancel (Nat.gcd_dvd_left _ _)).symm
  have e2 : gd = ea * d := by rw [hea, hd]; exact (Nat.div_mul_cancel (Nat.gcd_dvd_right _ _)).symm
  have hc : Nat.gcd ea eb = 1 := by
    rw [hea, heb, Nat.gcd_comm]
    exact Nat.coprime_div_gcd_div_gcd hd0
  have T1 : Nat.gcd (adT fn gn fd gd).natAbs eb = 1 := by
    unfold adT
    rw [← hea, ← heb]
    exact cop_sum _ gn fn.natAbs ea eb (by rw [Int.natAbs_mul]; simp) (Nat.Coprime.coprime_dvd_right ⟨d, e1⟩ hf) hc
  have T2 : Nat.gcd (adT fn gn fd gd).natAbs ea = 1 := by
    unfold adT
    rw [← hea, ← heb, Int.add_comm]
    exact cop_sum _ fn gn.natAbs eb ea (by rw [Int.natAbs_mul]; simp) (Nat.Coprime.coprime_dvd_right ⟨d, e2⟩ hg) (by rw [Nat.gcd_comm]; exact hc)
  obtain ⟨T, hT⟩ : ∃ T, T = (adT fn gn fd gd).natAbs := ⟨_, rfl⟩
  obtain ⟨S, hS⟩ : ∃ S, S = adS fn gn fd gd := ⟨_, rfl⟩
  have hS' : S = Nat.gcd T d := by
    rw [hS]; unfold adS
    rw [← hT, ← hd, ← Nat.gcd_rec, Nat.gcd_comm]
  have s0 : 0 < S := by rw [hS']; exact Nat.gcd_pos_of_pos_right _ (by rw [hd]; exact hd0)
  have sT : S ∣ T := by rw [hS']; exact Nat.gcd_dvd_left _ _
  have sd : S ∣ d := by rw [hS']; exact Nat.gcd_dvd_right _ _
  have eN : (adN fn gn fd gd).natAbs = T / S := by
    unfold adN ovV
    rw [← hS, ← hT]
    split
    · rw [Int.natAbs_neg, Int.natAbs_natCast]
    · rw [Int.natAbs_natCast]
  have eM : adM fn gn fd gd = ((eb * (gd / S) : Nat) : Int) := by
    unfold adM
    rw [← hS, ← heb]; simp
  have eG : gd / S = ea * (d / S) := by rw [e2, Nat.mul_div_assoc _ sd]
  have b0 : 0 < eb := by
    rcases Nat.eq_zero_or_pos eb with h | h
    · rw [h] at e1; omega
    · exact h
  have a0 : 0 < ea := by
    rcases Nat.eq_zero_or_pos ea with h | h
    · rw [h] at e2; omega
    · exact h
  have q0 : 0 < d / S := Nat.div_pos (Nat.le_of_dvd (by rw [hd]; exact hd0) sd) s0
  rw [← hT] at T1 T2
  have dv : T / S ∣ T := Nat.div_dvd_of_dvd sT
  have u1 : Nat.Coprime (T / S) eb := Nat.Coprime.coprime_dvd_left dv T1
  have u2 : Nat.Coprime (T / S) ea := Nat.Coprime.coprime_dvd_left dv T2
  have u3 : Nat.Coprime (T / S) (d / S) := by
    have := Nat.coprime_div_gcd_div_gcd (m := T) (n := d) (by rw [← hS']; exact s0)
    rw [← hS'] at this; exact this
  refine ⟨?_, ?_⟩
  · rw [eM, eG]
    have := Nat.mul_pos b0 (Nat.mul_pos a0 q0)
    omega
  · rw [eN, eM, Int.natAbs_natCast, eG]
    exact Nat.Coprime.mul_right u1 (Nat.Coprime.mul_right u2 u3)
/-- The sum of valid fractions is valid, if its parts are small. -/
theorem ag_valid {fn fd gn gd : Int} (h : agB fn gn fd gd = true) : fIs (agN fn gn fd gd) (agD fn gn fd gd) = true := by
  unfold agB at h
  split at h
  · rename_i hv
    rw [Bool.and_eq_true] at h
    obtain ⟨p1, p2⟩ := h
    have e1 : agN fn gn fd gd = adN fn gn fd.toNat gd.toNat := (if_pos hv).trans (if_pos ⟨p1, p2⟩)
    have e2 : agD fn gn fd gd = adM fn gn fd.toNat gd.toNat := (if_pos hv).trans (if_pos ⟨p1, p2⟩)
    rw [e1, e2]
    obtain ⟨f1, f2, f3, f4, f5⟩ := of_decide_eq_true hv.1
    obtain ⟨g1, g2, g3, g4, g5⟩ := of_decide_eq_true hv.2
    obtain ⟨m0, m1⟩ := ad_low fn gn fd.toNat gd.toNat (by rw [show fd.toNat = fd.natAbs by omega]; exact f5) (by rw [show gd.toNat = gd.natAbs by omega]; exact g5) (by omega) (by omega)
    have q1 := of_decide_eq_true p1
    have q2 := of_decide_eq_true p2
    exact decide_eq_true ⟨by omega, q2.2, q1.1, q1.2, m1⟩
  · cases h
/-- The sum of a list behind a sum, if all on the way are valid. -/
def sfS : List (Int × Int) → Int × Int → Option (Int × Int)
  | [], s => some s
  | x :: t, s => if agB s.1 x.1 s.2 x.2 = true then sfS t (agN s.1 x.1 s.2 x.2, agD s.1 x.1 s.2 x.2) else none
end Go.Proofs.YtnpigefbdadjfaaDoor

namespace Go.Proofs.YtnpigefbdadjfaaDoor
open Go Go.RowKit
set_option linter.unusedVariables false

/-- The result's box, the sum's box, boxes made since. -/
def Gs (w W : World) (X Y : Value) (L : List (Nat × Value × Value)) : Prop := (FBox W w.heap.size (.int .i64 0) (.int .i64 0) ∧ FBox W (w.heap.size + 1) X Y ∧ Below w.heap.size w W) ∧ ∀ x ∈ L, w.heap.size + 1 < x.1 ∧ FBox W x.1 x.2.1 x.2.2
theorem Gs.keep {w W W' : World} {X Y : Value} {L : List (Nat × Value × Value)} (h : Gs w W X Y L) (hb : Below W.heap.size W W') : Gs w W' X Y L := ⟨⟨fbox_keep h.1.1 hb, fbox_keep h.1.2.1 hb, bnext h.1.2.2 hb⟩, fun x hx => ⟨(h.2 x hx).1, fbox_keep (h.2 x hx).2 hb⟩⟩
theorem Gs.alloc {w W : World} {X Y : Value} {L : List (Nat × Value × Value)} (h : Gs w W X Y L) (o : Obj) : Gs w (W.alloc o) X Y L := h.keep ((Below.refl _ _).alloc (Nat.le_refl _) o)
theorem Gs.drew {w W : World} {X Y : Value} {L : List (Nat × Value × Value)} (h : Gs w W X Y L) : Gs w W.drew X Y L := h.keep (Below.refl _ _).drew
theorem Gs.new {w W : World} {X Y : Value} {L : List (Nat × Value × Value)} (h : Gs w W X Y L) (x y : Value) (t : TypeId) : Gs w (W.alloc (.cells #[x, y] t)) X Y ((W.heap.size, x, y) :: L) := by
  refine ⟨(h.alloc _).1, fun z hz => ?_⟩
  rcases List.mem_cons.1 hz with rfl | hz
  · exact ⟨h.1.2.1.1.2.2, fbox_new W x y t⟩
  · exact (h.alloc _).2 z hz
theorem Gs.set {w W : World} {X Y : Value} {b : Nat} {x y : Value} (h : Gs w W X Y [(b, x, y)]) (x' y' : Value) : Gs w ((W.setCell ⟨b, 0, none⟩ x').setCell ⟨b, 1, none⟩ y') X Y [(b, x', y')] := by
  have hb := h.2 (b, x, y) (by simp)
  have hlt : w.heap.size + 1 < b := hb.1
  refine ⟨⟨fbox_set_far h.1.1 (by omega) x' y', fbox_set_far h.1.2.1 (by omega) x' y', (h.1.2.2.setCell (p := ⟨b, 0, none⟩) (by show _ ≤ b; omega) x').setCell (p := ⟨b, 1, none⟩) (by show _ ≤ b; omega) y'⟩, fun z hz => ?_⟩
  rcases List.mem_cons.1 hz with rfl | hz
  · exact ⟨hlt, fbox_setF hb.2 x' y'⟩
  · cases hz
theorem Gs.sum {w W : World} {X Y : Value} {L : List (Nat × Value × Value)} (h : Gs w W X Y L) (x' y' : Value) : Gs w ((W.setCell ⟨w.heap.size + 1, 0, none⟩ x').setCell ⟨w.heap.size + 1, 1, none⟩ y') x' y' [] :=
  ⟨⟨fbox_set_far h.1.1 (by omega) x' y', fbox_setF h.1.2.1 x' y', (h.1.2.2.setCell (p := ⟨w.heap.size + 1, 0, none⟩) (by show _ ≤ _ + 1; omega) x').setCell (p := ⟨w.heap.size + 1, 1, none⟩) (by show _ ≤ _ + 1; omega) y'⟩, fun z hz => by cases hz⟩
theorem Gs.res {w W : World} {X Y : Value} {L : List (Nat × Value × Value)} (h : Gs w W X Y L) (x' y' : Value) : ((W.setCell ⟨w.heap.size, 0, none⟩ x').setCell ⟨w.heap.size, 1, none⟩ y').cell? ⟨w.heap.size, 0, none⟩ = some x' ∧ ((W.setCell ⟨w.heap.size, 0, none⟩ x').setCell ⟨w.heap.size, 1, none⟩ y').cell? ⟨w.heap.size, 1, none⟩ = some y' ∧ Below w.heap.size w ((W.setCell ⟨w.heap.size, 0, none⟩ x').setCell ⟨w.heap.size, 1, none⟩ y') := by
  have a := fbox_setF h.1.1 x' y'
  exact ⟨a.1.1, a.1.2.1, (h.1.2.2.setCell (p := ⟨w.heap.size, 0, none⟩) (Nat.le_refl _) x').setCell (p := ⟨w.heap.size, 1, none⟩) (Nat.le_refl _) y'⟩
theorem Gs.first (w : World) (t t' : TypeId) (X Y : Value) : Gs w ((w.alloc (.cells #[.int .i64 0, .int .i64 0] t)).alloc (.cells #[X, Y] t')) X Y [] := by
  refine ⟨⟨fbox_alloc (fbox_new w _ _ t) _, ?_, balloc (balloc (Below.refl w.heap.size w) _) _⟩, fun x hx => by cases hx⟩
  have := fbox_new (w.alloc (.cells #[.int .i64 0, .int .i64 0] t)) X Y t'
  simpa using this
theorem sfS_bad : ∀ (l : List (Int × Int)) (s : Int × Int), faB l = false → sfS l s = none
  | [], s, h => by simp [faB] at h
  | x :: t, s, h => by
    unfold sfS
    by_cases hx : fIs x.1 x.2 = true
    · have ht : faB t = false := by unfold faB at h ⊢; rw [List.all_cons, hx, Bool.true_and] at h; exact h
      split
      · exact sfS_bad t _ ht
      · rfl
    · have e3 : agB s.1 x.1 s.2 x.2 = false := if_neg (fun h => hx h.2)
      rw [e3, if_neg (by decide)]
end Go.Proofs.YtnpigefbdadjfaaDoor

namespace Go.Proofs.YtnpigefbdadjfaaDoor
open Go Go.RowKit
set_option linter.unusedVariables false

def sfN (l : List (Int × Int)) : Int := match sfS l (0, 1) with | some s => s.1 | none => 0
def sfD (l : List (Int × Int)) : Int := match sfS l (0, 1) with | some s => s.2 | none => 0
def sfO (l : List (Int × Int)) : Bool := (sfS l (0, 1)).isSome
theorem faB_at {l : List (Int × Int)} (h : faB l = true) {k : Nat} (hk : k < l.length) : fIs l[k].1 l[k].2 = true := by
  unfold faB at h
  exact List.all_eq_true.1 h _ (List.getElem_mem hk)
theorem Gs.c0 {w W : World} {X Y : Value} {L : List (Nat × Value × Value)} (h : Gs w W X Y L) : W.cell? ⟨w.heap.size + 1, 0, none⟩ = some X := h.1.2.1.1.1
theorem Gs.c1 {w W : World} {X Y : Value} {L : List (Nat × Value × Value)} (h : Gs w W X Y L) : W.cell? ⟨w.heap.size + 1, 1, none⟩ = some Y := h.1.2.1.1.2.1
theorem Gs.bl {w W : World} {X Y : Value} {L : List (Nat × Value × Value)} (h : Gs w W X Y L) : Below w.heap.size w W := h.1.2.2
theorem Gs.hd {w W : World} {X Y : Value} {b : Nat} {x y : Value} {L : List (Nat × Value × Value)} (h : Gs w W X Y ((b, x, y) :: L)) : W.cell? ⟨b, 0, none⟩ = some x ∧ W.cell? ⟨b, 1, none⟩ = some y ∧ W.frozen? ⟨b, 0, none⟩ = false ∧ W.frozen? ⟨b, 1, none⟩ = false := by
  have := (h.2 (b, x, y) (by simp)).2
  exact ⟨this.1.1, this.1.2.1, this.2.1, this.2.2⟩
theorem Gs.fz {w W : World} {X Y : Value} {L : List (Nat × Value × Value)} (h : Gs w W X Y L) : W.frozen? ⟨w.heap.size + 1, 0, none⟩ = false ∧ W.frozen? ⟨w.heap.size + 1, 1, none⟩ = false ∧ W.frozen? ⟨w.heap.size, 0, none⟩ = false ∧ W.frozen? ⟨w.heap.size, 1, none⟩ = false ∧ W.cell? ⟨w.heap.size, 0, none⟩ = some (.int .i64 0) ∧ W.cell? ⟨w.heap.size, 1, none⟩ = some (.int .i64 0) := ⟨h.1.2.1.2.1, h.1.2.1.2.2, h.1.1.2.1, h.1.1.2.2, h.1.1.1.1, h.1.1.1.2.1⟩
theorem sf_some {l : List (Int × Int)} {s : Int × Int} (h : sfS l (0, 1) = some s) : sfN l = s.1 ∧ sfD l = s.2 ∧ sfO l = true := by unfold sfN sfD sfO; rw [h]; exact ⟨rfl, rfl, rfl⟩
theorem sf_none {l : List (Int × Int)} (h : sfS l (0, 1) = none) : sfN l = 0 ∧ sfD l = 0 ∧ sfO l = false := by unfold sfN sfD sfO; rw [h]; exact ⟨rfl, rfl, rfl⟩
end Go.Proofs.YtnpigefbdadjfaaDoor

namespace Go.Proofs.YtnpigefbdadjfaaDoor
open Go Go.RowKit
set_option linter.unusedVariables false

def suN (l : List (Int × Int)) : Int := if l.length ≤ 64 then sfN l else 0
def suD (l : List (Int × Int)) : Int := if l.length ≤ 64 then sfD l else 0
def suO (l : List (Int × Int)) : Bool := if l.length ≤ 64 then sfO l else false
set_option maxRecDepth 100000 in
set_option maxHeartbeats 4000000 in
theorem sum_impl (w : World) (v : Value) (l : List (Int × Int)) (h : RdF w v l) (hl : l.length ≤ 100000000) (hw : ∀ x ∈ l, -9223372036854775808 ≤ x.1 ∧ x.1 ≤ 9223372036854775807) :
    Calls Tryd.prog 28 #[v] w fun e w' => e = .returned (.tuple #[.agg #[.int .i64 (suN l), .int .i64 (suD l)], .bool (suO l)]) ∧ Below w.heap.size w w' := by
  obtain ⟨A, n, c, rfl, hn, r⟩ := h
  have HR := Lib.hid r
  have HN := Lib.hid hn
  have HWL := Lib.hid hw
  have G0 := Lib.hid (Gs.first w 36 36 (.int .i64 0) (.int .i64 1))
  by_cases h64 : n ≤ 64
  · have e1 : suN l = sfN l := if_pos (by omega)
    have e2 : suD l = sfD l := if_pos (by omega)
    have e3 : suO l = sfO l := if_pos (by omega)
    rw [e1, e2, e3]
    clear e1 e2 e3 r hn hw hl
    go_enter Tryd.func28, Tryd.ntmps28
    go_wp2_with fail
    go_loopw [16] (fun i wr => ∃ (k : Nat) (s : Int × Int), k ≤ n ∧ i = .int .i64 k ∧ Gs w wr (.int .i64 s.1) (.int .i64 s.2) [] ∧ fIs s.1 s.2 = true ∧ sfS (l.drop k) s = sfS l (0, 1)) (fun i _ => n - (intOf i).toNat)
    case atStart => exact ⟨0, (0, 1), Nat.zero_le _, rfl, G0.out, by decide, rfl⟩
    case round =>
      obtain ⟨k, ⟨sx, sy⟩, hk, rfl, hg, hs, he⟩ := hrel
      simp only at hg hs he
      by_cases hlt : k < n
      · obtain ⟨b, o, rfl, hb0, hc⟩ := HR.out (by omega)
        have hkl : k < l.length := by have := HN.out; omega
        obtain ⟨d0, d1⟩ := hc k hkl
        have d0 := (hg.bl.cell (p := ⟨b, o + k * 2, none⟩) hb0).trans d0
        have d1 := (hg.bl.cell (p := ⟨b, o + k * 2 + 1, none⟩) hb0).trans d1
        have hv := HWL.out _ (List.getElem_mem hkl)
        obtain ⟨-, q1, q2⟩ := fIs_bd hs
        have hst : sfS (l.drop k) (sx, sy) = if agB sx l[k].1 sy l[k].2 = true then sfS (l.drop (k + 1)) (agN sx l[k].1 sy l[k].2, agD sx l[k].1 sy l[k].2) else none := by
          rw [List.drop_eq_getElem_cons hkl, sfS]
        rw [he] at hst
        have HST := Lib.hid hst
        have HV : Hid (agB sx l[k].1 sy l[k].2 = true → fIs (agN sx l[k].1 sy l[k].2) (agD sx l[k].1 sy l[k].2) = true) := fun h => ag_valid h
        have HC := Lib.hid (fun W => add_impl sx sy l[k].1 l[k].2 W (by omega) (by omega) hv.1 hv.2)
        clear hc hv hst hs he q1 q2
        generalize agN sx l[k].1 sy l[k].2 = X at *
        generalize agD sx l[k].1 sy l[k].2 = Y at *
        generalize agB sx l[k].1 sy l[k].2 = Z at *
        generalize l[k].1 = x at *
        generalize l[k].2 = y at *
        have i1 : (0 : Int) ≤ (k : Int) := by omega
        have i2 : (k : Int) < (n : Int) := by omega
        have t6 := hg.new (.int .i64 x) (.int .i64 y) 36
        obtain ⟨x0, x1, x2, x3⟩ := t6.hd
        have s0 := t6.c0
        have s1 := t6.c1
        go_wp2_with fail
        refine (HC.out _).mono ?_; rintro e w8 ⟨rfl, hb8⟩
        have t8 := (t6.keep hb8).new (.int .i64 X) (.int .i64 Y) 36
        clear t6 hb8 x0 x1 x2 x3 s0 s1 hg
        obtain ⟨x0, x1, x2, x3⟩ := t8.hd
        obtain ⟨z0, z1, z2, z3, z4, z5⟩ := t8.fz
        have s0 := t8.c0
        have s1 := t8.c1
        have TT := Lib.hid t8
        cases Z
        · obtain ⟨e1, e2, e3⟩ := sf_none (HST.out.trans (if_neg (by decide)))
          obtain ⟨p0, p1, p2⟩ := Gs.res t8 (.int .i64 0) (.int .i64 0)
          clear t8
          go_wp2_with fail
          refine bodyPost_ret (v := .tuple #[.agg #[.int .i64 0, .int .i64 0], .bool false]) (by simp [results, Tryd.results28, go_sem, p0, p1]) rfl ⟨by rw [e1, e2, e3], ?_⟩
          exact p2
        · have hv := Lib.hid (HV.out rfl)
          have hst := Lib.hid (HST.out.trans (if_pos rfl)).symm
          clear t8
          go_wp2_with fail
          go_roundw
          case rel => exact ⟨k + 1, (X, Y), by omega, by go_num, TT.out.sum _ _, hv.out, hst.out⟩
          case measure => simp [intOf]; omega
      · obtain rfl : k = n := by omega
        have hfin : sfS l (0, 1) = some (sx, sy) := by
          rw [← he, List.drop_of_length_le (by have := HN.out; omega)]; rfl
        obtain ⟨e1, e2, e3⟩ := sf_some hfin
        simp only at e1 e2
        obtain ⟨p0, p1, p2⟩ := Gs.res hg (.int .i64 sx) (.int .i64 sy)
        obtain ⟨z0, z1, z2, z3, z4, z5⟩ := hg.fz
        have s0 := hg.c0
        have s1 := hg.c1
        clear hg he hfin
        go_wp2_with fail
        refine bodyPost_ret (v := .tuple #[.agg #[.int .i64 sx, .int .i64 sy], .bool true]) (by simp [results, Tryd.results28, go_sem, p0, p1]) rfl ⟨by rw [e1, e2, e3], ?_⟩
        exact p2
  · have e1 : suN l = 0 := if_neg (by omega)
    have e2 : suD l = 0 := if_neg (by omega)
    have e3 : suO l = false := if_neg (by omega)
    rw [e1, e2, e3]
    have hgt : (64 : Int) < (n : Int) := by omega
    clear r hn hw hl e1 e2 e3 HR HWL G0
    go_enter Tryd.func28, Tryd.ntmps28
    go_wp2_with fail
    simp [bodyPost, results, Tryd.results28, go_sem]
    exact (Below.refl _ _).alloc (Nat.le_refl _) _
end Go.Proofs.YtnpigefbdadjfaaDoor

