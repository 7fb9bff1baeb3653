/- Several texts in one: Contracts of both ReadFraction: what they answer, and plain facts on the first slash. | The contract of the program's ReadFraction. | Plain facts on Pascal's triangle, without the program. | Contracts of l01Choose and of both BinomialOf. -/
import Derived.Test.YtnpigefbdadjfaaDoorFtx
import Derived.Test.YtnpigefbdadjfaaDoorRdn
import Derived.Lib.IndexMore
import Derived.Test.YtnpigefbdadjfaaDoorBk
import Derived.Test.YtnpigefbdadjfaaDoorShelfT
import Derived.Test.YtnpigefbdadjfaaDoorInts
import Derived.Test.YtnpigefbdadjfaaDoorBtw
import Derived.Deep.RegionLaw
import Derived.Deep.AppendLies
namespace Go.Proofs.YtnpigefbdadjfaaDoor
open Go Go.RowKit
set_option linter.unusedVariables false

abbrev MP : Int := 1000000000000000000
theorem occ_one (l : List UInt8) (j : Nat) : Lib.occAt l [47] j = decide (l[j]? = some 47) := by
  unfold Lib.occAt
  have h : (l.drop j).head? = l[j]? := by simp
  cases hd : l.drop j with
  | nil =>
    have hn : l.length ≤ j := by simpa using hd
    rw [List.getElem?_eq_none hn]; rfl
  | cons c t =>
    rw [hd] at h
    simp at h
    rw [← h]
    by_cases hc : c = 47
    · subst hc; simp [List.isPrefixOf]
    · have h2 : ¬ (47 : UInt8) = c := fun e => hc e.symm
      simp [List.isPrefixOf, hc, h2]
theorem cut_no {l : List UInt8} (h : ∀ j : Nat, l[j]? ≠ some 47) : Lib.cut l [47] = (l, [], false) := by
  unfold Lib.cut
  rw [Lib.index_none (fun j _ => by rw [occ_one]; exact decide_eq_false (h j)), if_neg (by decide)]
theorem cut_yes {l : List UInt8} {k : Nat} (hk : l[k]? = some 47) (h : ∀ j : Nat, j < k → l[j]? ≠ some 47) : Lib.cut l [47] = (l.take k, l.drop (k + 1), true) := by
  have hlt : k < l.length := by
    rcases Nat.lt_or_ge k l.length with h' | h'
    · exact h'
    · rw [List.getElem?_eq_none h'] at hk; cases hk
  have hi := Lib.index_first (s := l) (sub := [47]) (i := k) (by omega) (by rw [occ_one]; exact decide_eq_true hk) (fun j hj => by rw [occ_one]; exact decide_eq_false (h j hj))
  unfold Lib.cut
  rw [hi, if_pos (by omega)]
  simp
theorem split_at {l : List UInt8} {k : Nat} (hk : l[k]? = some 47) : l = l.take k ++ 47 :: l.drop (k + 1) := by
  have hlt : k < l.length := by
    rcases Nat.lt_or_ge k l.length with h' | h'
    · exact h'
    · rw [List.getElem?_eq_none h'] at hk; cases hk
  have : l[k] = 47 := by rw [List.getElem?_eq_getElem hlt] at hk; exact Option.some.inj hk
  rw [← this, List.getElem_cons_drop, List.take_append_drop]

/-- What ReadFraction answers: the numerator, the denominator, and whether the text is one of a fraction. -/
def FR (l : List UInt8) : Int × Int × Bool :=
  if (Lib.cut l [47]).2.2 = true then
    (if rdOk MP (Lib.cut l [47]).1 = true ∧ rdOk MP (Lib.cut l [47]).2.1 = true ∧ fIs (rdN MP (Lib.cut l [47]).1) (rdN MP (Lib.cut l [47]).2.1) = true ∧ rdN MP (Lib.cut l [47]).2.1 ≠ 1
      then (rdN MP (Lib.cut l [47]).1, rdN MP (Lib.cut l [47]).2.1, true) else (0, 0, false))
  else if rdOk MP l = true then (rdN MP l, 1, true) else (0, 0, false)
theorem FR_no {l a : List UInt8} (h : Lib.cut l [47] = (a, [], false)) (ho : rdOk MP l = false) : FR l = (0, 0, false) := by
  unfold FR; rw [h, ho]; rfl
theorem FR_whole {l a : List UInt8} (h : Lib.cut l [47] = (a, [], false)) (ho : rdOk MP l = true) : FR l = (rdN MP l, 1, true) := by
  unfold FR; rw [h, ho]; rfl
theorem FR_yes {l a b : List UInt8} (h : Lib.cut l [47] = (a, b, true)) (h1 : rdOk MP a = true) (h2 : rdOk MP b = true) (h3 : fIs (rdN MP a) (rdN MP b) = true) (h4 : rdN MP b ≠ 1) : FR l = (rdN MP a, rdN MP b, true) := by
  unfold FR; rw [h]; exact (if_pos rfl).trans (if_pos ⟨h1, h2, h3, h4⟩)
theorem FR_not {l a b : List UInt8} (h : Lib.cut l [47] = (a, b, true)) (hn : ¬ (rdOk MP a = true ∧ rdOk MP b = true ∧ fIs (rdN MP a) (rdN MP b) = true ∧ rdN MP b ≠ 1)) : FR l = (0, 0, false) := by
  unfold FR; rw [h]; exact (if_pos rfl).trans (if_neg hn)

theorem gr_rd {l : List UInt8} {n : Int} {ok : Bool} (h : GR l n ok) : ok = rdOk MP l ∧ (ok = true → n = rdN MP l ∧ Lib.itoa n = l ∧ -1000000000000000000 ≤ n ∧ n ≤ 1000000000000000000) := by
  cases ok
  · have := (rd_no (M := MP) (l := l) (fun v a b c => by have := (h.2 v a b c).1; cases this)).2
    exact ⟨this.symm, fun e => by cases e⟩
  · obtain ⟨h1, h2, h3⟩ := h.1 rfl
    obtain ⟨r1, r2⟩ := rd_yes (M := MP) (by unfold MP; omega) h2 h3 h1
    exact ⟨r2.symm, fun _ => ⟨r1.symm, h1, h2, h3⟩⟩
theorem rd_true {M : Int} {l : List UInt8} (h : rdOk M l = true) : Lib.itoa (rdN M l) = l ∧ -M ≤ rdN M l ∧ rdN M l ≤ M := by
  unfold rdOk at h
  unfold rdN
  split at h
  · rename_i v hv
    have h' := of_decide_eq_true h
    rw [if_pos h']
    exact ⟨h'.2.2, h'.1, h'.2.1⟩
  · cases h
theorem fIs_one {n : Int} (h0 : -1000000000000000000 ≤ n) (h1 : n ≤ 1000000000000000000) : fIs n 1 = true := by
  unfold fIs
  exact decide_eq_true ⟨by omega, by omega, h0, h1, by simp⟩
theorem fT_one (n : Int) : fT n 1 = ⟨(Lib.itoa n).toArray⟩ := by unfold fT; rw [if_pos rfl]
theorem fT_list {n d : Int} (h : d ≠ 1) : (fT n d).data.toList = Lib.itoa n ++ 47 :: Lib.itoa d := by
  unfold fT
  rw [if_neg h]
  simp
theorem one_text : rdOk MP [49] = true ∧ rdN MP [49] = 1 := by
  obtain ⟨h1, h2⟩ := rd_yes (M := MP) (l := [49]) (v := 1) (by unfold MP; omega) (by unfold MP; omega) (by unfold MP; omega) (by decide +kernel)
  exact ⟨h2, h1⟩
theorem ext_drop (s : ByteArray) (k : Nat) : (s.extract (k + 1) s.size).data.toList = s.data.toList.drop (k + 1) := by
  rw [ByteArray.data_extract, Array.toList_extract, List.extract_eq_take_drop]
  refine List.take_of_length_le ?_
  rw [List.length_drop]
  exact Nat.le_refl _
theorem fT_self {n d : Int} {s : ByteArray} (h : s.data.toList = Lib.itoa n ++ 47 :: Lib.itoa d) (hd : d ≠ 1) : ((fT n d).toList == s.toList) = true := by
  have e : fT n d = s := ByteArray.ext (Array.toList_inj.1 (by rw [fT_list hd]; exact h.symm))
  rw [e]; simp
theorem fT_else {n d : Int} {s : ByteArray} (h : s.data.toList = Lib.itoa n ++ 47 :: Lib.itoa d) (hd : d = 1) : ((fT n d).toList == s.toList) = false := by
  subst hd
  rw [← beq_toListBytes, fT_one]
  cases hh : ((⟨(Lib.itoa n).toArray⟩ : ByteArray) == s)
  · rfl
  · exfalso
    have e := bytes_eq hh
    rw [← e] at h
    have e3 := congrArg List.length h
    rw [List.length_append, List.length_cons] at e3
    simp at e3
end Go.Proofs.YtnpigefbdadjfaaDoor

namespace Go.Proofs.YtnpigefbdadjfaaDoor
open Go Go.RowKit
set_option linter.unusedVariables false

theorem cut_len (l x : List UInt8) : (Lib.cut l x).1.length ≤ l.length ∧ (Lib.cut l x).2.1.length ≤ l.length := by
  unfold Lib.cut
  split
  · exact ⟨by simp [List.length_take]; omega, by simp [List.length_drop]⟩
  · exact ⟨Nat.le_refl _, Nat.zero_le _⟩
theorem cut_false {l x a b : List UInt8} (h : Lib.cut l x = (a, b, false)) : a = l ∧ b = [] := by
  unfold Lib.cut at h
  split at h
  · cases h
  · cases h; exact ⟨rfl, rfl⟩
theorem below_drewN2 {B : Nat} {w w' : World} (h : Below B w w') (q : Nat) : Below B w (w'.drewN q) := ⟨h.os, h.tape, h.output, by simpa using h.size, fun k hk => by simpa using h.block k hk⟩

set_option maxRecDepth 100000 in
set_option maxHeartbeats 1600000 in
theorem fread_impl (s : ByteArray) (hs : s.size ≤ 1048576) (m : Int) (w : World) (hm : w.cell? ⟨5, 0, none⟩ = some (.int .i64 m)) (hv : Vars w) :
    Calls Tryd.prog 27 #[.string s] w fun e w' => e = .returned (.tuple #[.agg #[.int .i64 (FR s.data.toList).1, .int .i64 (FR s.data.toList).2.1], .bool (FR s.data.toList).2.2]) ∧ Below w.heap.size w w' := by
  have hl := cut_len s.data.toList [47]
  have hz : s.data.toList.length = s.size := rfl
  have CU := Lib.hid (fun W h => Tryd.strings_Cut s ⟨#[47]⟩ m W (by omega) h)
  rw [show (⟨#[47]⟩ : ByteArray).data.toList = [47] from rfl] at CU
  obtain ⟨a, b, f, hc⟩ : ∃ a b f, Lib.cut s.data.toList [47] = (a, b, f) := ⟨_, _, _, rfl⟩
  rw [hc] at hl CU
  obtain ⟨za, zb⟩ : a.length ≤ s.data.toList.length ∧ b.length ≤ s.data.toList.length := hl
  have BB : Hid (Below w.heap.size w (w.alloc (.cells #[.int .i64 0, .int .i64 0] 36))) := (Below.refl _ _).alloc (Nat.le_refl _) _
  have R0 := Lib.hid (Bk.new w [.int .i64 0, .int .i64 0] 36 w.heap.size rfl)
  have HM : Hid ((w.alloc (.cells #[.int .i64 0, .int .i64 0] 36)).cell? ⟨5, 0, none⟩ = some (.int .i64 m)) := (BB.out.cell (World.block_lt_of_cell? w _ hm)).trans hm
  have HV := Lib.hid hv
  have RA : Hid (∀ W, Vars W → Calls Tryd.prog 81 #[.string ⟨a.toArray⟩, .int .i64 MP] W fun e w' => e = .returned (.tuple #[.int .i64 (rdN MP a), .bool (rdOk MP a)]) ∧ Below W.heap.size W w') := Lib.hid (fun W h => readNumber_any ⟨a.toArray⟩ (by show a.toArray.size ≤ _; simp; omega) MP (by unfold MP; omega) (by unfold MP; omega) W h)
  have NA := @rd_true MP a
  have NB := @rd_true MP b
  clear hm hv
  cases f
  · obtain ⟨rfl, rfl⟩ := cut_false hc
    have es : (⟨s.data.toList.toArray⟩ : ByteArray) = s := by cases s; simp
    rw [es] at CU RA
    have RB : Hid (∀ W, Vars W → Calls Tryd.prog 81 #[.string ⟨#[49]⟩, .int .i64 MP] W fun e w' => e = .returned (.tuple #[.int .i64 1, .bool true]) ∧ Below W.heap.size W w') := by
      have h := fun W h => readNumber_any ⟨#[49]⟩ (by show 1 ≤ _; omega) MP (by unfold MP; omega) (by unfold MP; omega) W h
      rw [show (⟨#[49]⟩ : ByteArray).data.toList = [49] from rfl, one_text.1, one_text.2] at h
      exact Lib.hid h
    cases ho : rdOk MP s.data.toList
    · have F := Lib.hid (FR_no hc ho)
      rw [ho] at RA
      clear hc ho NA NB za zb hz es
      generalize rdN MP s.data.toList = n at *
      go_enter Tryd.func27, Tryd.ntmps27
      go_wp2_with fail
      refine (CU.out _ HM.out).mono ?_; rintro e w1 ⟨rfl, q, rfl⟩
      have R1 := Lib.hid (R0.out.drewN q)
      have B1 := Lib.hid (below_drewN2 BB.out q)
      go_wp2_with fail
      refine (RA.out _ (HV.out.keep B1.out)).mono ?_; rintro e w2 ⟨rfl, hb2⟩
      have R2 := Lib.hid (R1.out.keep hb2)
      have B2 := Lib.hid (B1.out.trans (hb2.mono B1.out.size))
      clear hb2
      go_wp2_with fail
      refine (RB.out _ (HV.out.keep B2.out)).mono ?_; rintro e w3 ⟨rfl, hb3⟩
      have R3 := Lib.hid ((R2.out.keep hb3).alloc (.cells #[.int .i64 n, .int .i64 1] 36))
      have B3 : Hid (Below w.heap.size w (w3.alloc (.cells #[.int .i64 n, .int .i64 1] 36))) := (B2.out.trans (hb3.mono B2.out.size)).alloc (B2.out.trans (hb3.mono B2.out.size)).size _
      have X3 := Lib.hid (Bk.new w3 [.int .i64 n, .int .i64 1] 36 w3.heap.size rfl)
      clear hb3 R1 R2 B1 B2
      have q0 := R3.out.c 0 _ rfl
      have q1 := R3.out.c 1 _ rfl
      have q2 := R3.out.f 0 (by show 0 < 2; omega)
      have q3 := R3.out.f 1 (by show 1 < 2; omega)
      go_wp2_with fail
      refine bodyPost_ret (v := .tuple #[.agg #[.int .i64 0, .int .i64 0], .bool false]) (by simp [results, Tryd.results27, go_sem, q0, q1]) rfl ⟨by rw [F.out], ?_⟩
      exact (B3.out.setCell (by simp) _).setCell (by simp) _
    · have F := Lib.hid (FR_whole hc ho)
      obtain ⟨-, n0, n1⟩ := NA ho
      rw [ho] at RA
      clear hc ho NA NB za zb hz es
      generalize rdN MP s.data.toList = n at *
      have HF := Lib.hid (fun W => validFraction_impl n 1 W (by unfold MP at n0; omega) (by unfold MP at n1; omega))
      rw [fIs_one n0 n1] at HF
      clear n0 n1
      go_enter Tryd.func27, Tryd.ntmps27
      go_wp2_with fail
      refine (CU.out _ HM.out).mono ?_; rintro e w1 ⟨rfl, q, rfl⟩
      have R1 := Lib.hid (R0.out.drewN q)
      have B1 := Lib.hid (below_drewN2 BB.out q)
      go_wp2_with fail
      refine (RA.out _ (HV.out.keep B1.out)).mono ?_; rintro e w2 ⟨rfl, hb2⟩
      have R2 := Lib.hid (R1.out.keep hb2)
      have B2 := Lib.hid (B1.out.trans (hb2.mono B1.out.size))
      clear hb2
      go_wp2_with fail
      refine (RB.out _ (HV.out.keep B2.out)).mono ?_; rintro e w3 ⟨rfl, hb3⟩
      have R3 := Lib.hid ((R2.out.keep hb3).alloc (.cells #[.int .i64 n, .int .i64 1] 36))
      have B3 : Hid (Below w.heap.size w (w3.alloc (.cells #[.int .i64 n, .int .i64 1] 36))) := (B2.out.trans (hb3.mono B2.out.size)).alloc (B2.out.trans (hb3.mono B2.out.size)).size _
      have X3 := Lib.hid (Bk.new w3 [.int .i64 n, .int .i64 1] 36 w3.heap.size rfl)
      clear hb3 R1 R2 B1 B2
      have x0 := X3.out.c 0 _ rfl
      have x1 := X3.out.c 1 _ rfl
      go_wp2_with fail
      refine (HF.out _).mono ?_; rintro e w4 ⟨rfl, hb4⟩
      have R4 := Lib.hid (R3.out.keep hb4)
      have X4 := Lib.hid (X3.out.keep hb4)
      have B4 := Lib.hid (B3.out.trans (hb4.mono B3.out.size))
      clear hb4 x0 x1
      have x0 := X4.out.c 0 _ rfl
      have x1 := X4.out.c 1 _ rfl
      have q0 := R4.out.c 0 _ rfl
      have q1 := R4.out.c 1 _ rfl
      have q2 := R4.out.f 0 (by show 0 < 2; omega)
      have q3 := R4.out.f 1 (by show 1 < 2; omega)
      go_wp2_with fail
      refine bodyPost_ret (v := .tuple #[.agg #[.int .i64 n, .int .i64 1], .bool true]) (by simp [results, Tryd.results27, go_sem, q0, q1]) rfl ⟨by rw [F.out], ?_⟩
      exact (B4.out.setCell (by simp) _).setCell (by simp) _
  · have RB : Hid (∀ W, Vars W → Calls Tryd.prog 81 #[.string ⟨b.toArray⟩, .int .i64 MP] W fun e w' => e = .returned (.tuple #[.int .i64 (rdN MP b), .bool (rdOk MP b)]) ∧ Below W.heap.size W w') := Lib.hid (fun W h => readNumber_any ⟨b.toArray⟩ (by show b.toArray.size ≤ _; simp; omega) MP (by unfold MP; omega) (by unfold MP; omega) W h)
    cases oa : rdOk MP a
    · have F := Lib.hid (FR_not hc (fun e => by have := e.1; rw [oa] at this; cases this))
      rw [oa] at RA
      clear hc oa NA NB za zb hz
      generalize rdN MP a = n at *
      generalize rdN MP b = d at *
      generalize rdOk MP b = two at *
      generalize (⟨a.toArray⟩ : ByteArray) = ta at *
      generalize (⟨b.toArray⟩ : ByteArray) = tb at *
      go_enter Tryd.func27, Tryd.ntmps27
      go_wp2_with fail
      refine (CU.out _ HM.out).mono ?_; rintro e w1 ⟨rfl, q, rfl⟩
      have R1 := Lib.hid (R0.out.drewN q)
      have B1 := Lib.hid (below_drewN2 BB.out q)
      go_wp2_with fail
      refine (RA.out _ (HV.out.keep B1.out)).mono ?_; rintro e w2 ⟨rfl, hb2⟩
      have R2 := Lib.hid (R1.out.keep hb2)
      have B2 := Lib.hid (B1.out.trans (hb2.mono B1.out.size))
      clear hb2
      go_wp2_with fail
      refine (RB.out _ (HV.out.keep B2.out)).mono ?_; rintro e w3 ⟨rfl, hb3⟩
      have R3 := Lib.hid ((R2.out.keep hb3).alloc (.cells #[.int .i64 n, .int .i64 d] 36))
      have B3 : Hid (Below w.heap.size w (w3.alloc (.cells #[.int .i64 n, .int .i64 d] 36))) := (B2.out.trans (hb3.mono B2.out.size)).alloc (B2.out.trans (hb3.mono B2.out.size)).size _
      have X3 := Lib.hid (Bk.new w3 [.int .i64 n, .int .i64 d] 36 w3.heap.size rfl)
      clear hb3 R1 R2 B1 B2
      have q0 := R3.out.c 0 _ rfl
      have q1 := R3.out.c 1 _ rfl
      have q2 := R3.out.f 0 (by show 0 < 2; omega)
      have q3 := R3.out.f 1 (by show 1 < 2; omega)
      go_wp2_with fail
      refine bodyPost_ret (v := .tuple #[.agg #[.int .i64 0, .int .i64 0], .bool false]) (by simp [results, Tryd.results27, go_sem, q0, q1]) rfl ⟨by rw [F.out], ?_⟩
      exact (B3.out.setCell (by simp) _).setCell (by simp) _
    cases ob : rdOk MP b
    · have F := Lib.hid (FR_not hc (fun e => by have := e.2.1; rw [ob] at this; cases this))
      rw [oa] at RA
      rw [ob] at RB
      clear hc oa ob NA NB za zb hz
      generalize rdN MP a = n at *
      generalize rdN MP b = d at *
      generalize (⟨a.toArray⟩ : ByteArray) = ta at *
      generalize (⟨b.toArray⟩ : ByteArray) = tb at *
      go_enter Tryd.func27, Tryd.ntmps27
      go_wp2_with fail
      refine (CU.out _ HM.out).mono ?_; rintro e w1 ⟨rfl, q, rfl⟩
      have R1 := Lib.hid (R0.out.drewN q)
      have B1 := Lib.hid (below_drewN2 BB.out q)
      go_wp2_with fail
      refine (RA.out _ (HV.out.keep B1.out)).mono ?_; rintro e w2 ⟨rfl, hb2⟩
      have R2 := Lib.hid (R1.out.keep hb2)
      have B2 := Lib.hid (B1.out.trans (hb2.mono B1.out.size))
      clear hb2
      go_wp2_with fail
      refine (RB.out _ (HV.out.keep B2.out)).mono ?_; rintro e w3 ⟨rfl, hb3⟩
      have R3 := Lib.hid ((R2.out.keep hb3).alloc (.cells #[.int .i64 n, .int .i64 d] 36))
      have B3 : Hid (Below w.heap.size w (w3.alloc (.cells #[.int .i64 n, .int .i64 d] 36))) := (B2.out.trans (hb3.mono B2.out.size)).alloc (B2.out.trans (hb3.mono B2.out.size)).size _
      have X3 := Lib.hid (Bk.new w3 [.int .i64 n, .int .i64 d] 36 w3.heap.size rfl)
      clear hb3 R1 R2 B1 B2
      have q0 := R3.out.c 0 _ rfl
      have q1 := R3.out.c 1 _ rfl
      have q2 := R3.out.f 0 (by show 0 < 2; omega)
      have q3 := R3.out.f 1 (by show 1 < 2; omega)
      go_wp2_with fail
      refine bodyPost_ret (v := .tuple #[.agg #[.int .i64 0, .int .i64 0], .bool false]) (by simp [results, Tryd.results27, go_sem, q0, q1]) rfl ⟨by rw [F.out], ?_⟩
      exact (B3.out.setCell (by simp) _).setCell (by simp) _
    obtain ⟨-, n0, n1⟩ := NA oa
    obtain ⟨-, d0, d1⟩ := NB ob
    have HF := Lib.hid (fun W => validFraction_impl (rdN MP a) (rdN MP b) W (by unfold MP at n0 ⊢; omega) (by unfold MP at n1 ⊢; omega))
    have HY := Lib.hid (fun h3 h4 => FR_yes hc oa ob h3 h4)
    have HN := Lib.hid (fun hn => FR_not hc hn)
    rw [oa] at RA
    rw [ob] at RB
    clear hc oa ob NA NB za zb hz n0 n1 d0 d1
    generalize rdN MP a = n at *
    generalize rdN MP b = d at *
    generalize (⟨a.toArray⟩ : ByteArray) = ta at *
    generalize (⟨b.toArray⟩ : ByteArray) = tb at *
    cases hf : fIs n d
    · have F := Lib.hid (HN.out (fun e => by have := e.2.2.1; rw [hf] at this; cases this))
      rw [hf] at HF
      clear hf HY HN
      go_enter Tryd.func27, Tryd.ntmps27
      go_wp2_with fail
      refine (CU.out _ HM.out).mono ?_; rintro e w1 ⟨rfl, q, rfl⟩
      have R1 := Lib.hid (R0.out.drewN q)
      have B1 := Lib.hid (below_drewN2 BB.out q)
      go_wp2_with fail
      refine (RA.out _ (HV.out.keep B1.out)).mono ?_; rintro e w2 ⟨rfl, hb2⟩
      have R2 := Lib.hid (R1.out.keep hb2)
      have B2 := Lib.hid (B1.out.trans (hb2.mono B1.out.size))
      clear hb2
      go_wp2_with fail
      refine (RB.out _ (HV.out.keep B2.out)).mono ?_; rintro e w3 ⟨rfl, hb3⟩
      have R3 := Lib.hid ((R2.out.keep hb3).alloc (.cells #[.int .i64 n, .int .i64 d] 36))
      have B3 : Hid (Below w.heap.size w (w3.alloc (.cells #[.int .i64 n, .int .i64 d] 36))) := (B2.out.trans (hb3.mono B2.out.size)).alloc (B2.out.trans (hb3.mono B2.out.size)).size _
      have X3 := Lib.hid (Bk.new w3 [.int .i64 n, .int .i64 d] 36 w3.heap.size rfl)
      clear hb3 R1 R2 B1 B2
      have x0 := X3.out.c 0 _ rfl
      have x1 := X3.out.c 1 _ rfl
      go_wp2_with fail
      refine (HF.out _).mono ?_; rintro e w4 ⟨rfl, hb4⟩
      have R4 := Lib.hid (R3.out.keep hb4)
      have X4 := Lib.hid (X3.out.keep hb4)
      have B4 := Lib.hid (B3.out.trans (hb4.mono B3.out.size))
      clear hb4 x0 x1
      have x0 := X4.out.c 0 _ rfl
      have x1 := X4.out.c 1 _ rfl
      have q0 := R4.out.c 0 _ rfl
      have q1 := R4.out.c 1 _ rfl
      have q2 := R4.out.f 0 (by show 0 < 2; omega)
      have q3 := R4.out.f 1 (by show 1 < 2; omega)
      go_wp2_with fail
      refine bodyPost_ret (v := .tuple #[.agg #[.int .i64 0, .int .i64 0], .bool false]) (by simp [results, Tryd.results27, go_sem, q0, q1]) rfl ⟨by rw [F.out], ?_⟩
      exact (B4.out.setCell (by simp) _).setCell (by simp) _
    by_cases hd : d = 1
    · have F := Lib.hid (HN.out (fun e => e.2.2.2 hd))
      rw [hf] at HF
      have hz : (d == 1) = true := by simpa using hd
      clear hf HY HN hd
      go_enter Tryd.func27, Tryd.ntmps27
      go_wp2_with fail
      refine (CU.out _ HM.out).mono ?_; rintro e w1 ⟨rfl, q, rfl⟩
      have R1 := Lib.hid (R0.out.drewN q)
      have B1 := Lib.hid (below_drewN2 BB.out q)
      go_wp2_with fail
      refine (RA.out _ (HV.out.keep B1.out)).mono ?_; rintro e w2 ⟨rfl, hb2⟩
      have R2 := Lib.hid (R1.out.keep hb2)
      have B2 := Lib.hid (B1.out.trans (hb2.mono B1.out.size))
      clear hb2
      go_wp2_with fail
      refine (RB.out _ (HV.out.keep B2.out)).mono ?_; rintro e w3 ⟨rfl, hb3⟩
      have R3 := Lib.hid ((R2.out.keep hb3).alloc (.cells #[.int .i64 n, .int .i64 d] 36))
      have B3 : Hid (Below w.heap.size w (w3.alloc (.cells #[.int .i64 n, .int .i64 d] 36))) := (B2.out.trans (hb3.mono B2.out.size)).alloc (B2.out.trans (hb3.mono B2.out.size)).size _
      have X3 := Lib.hid (Bk.new w3 [.int .i64 n, .int .i64 d] 36 w3.heap.size rfl)
      clear hb3 R1 R2 B1 B2
      have x0 := X3.out.c 0 _ rfl
      have x1 := X3.out.c 1 _ rfl
      go_wp2_with fail
      refine (HF.out _).mono ?_; rintro e w4 ⟨rfl, hb4⟩
      have R4 := Lib.hid (R3.out.keep hb4)
      have X4 := Lib.hid (X3.out.keep hb4)
      have B4 := Lib.hid (B3.out.trans (hb4.mono B3.out.size))
      clear hb4 x0 x1
      have x0 := X4.out.c 0 _ rfl
      have x1 := X4.out.c 1 _ rfl
      have q0 := R4.out.c 0 _ rfl
      have q1 := R4.out.c 1 _ rfl
      have q2 := R4.out.f 0 (by show 0 < 2; omega)
      have q3 := R4.out.f 1 (by show 1 < 2; omega)
      go_wp2_with fail
      refine bodyPost_ret (v := .tuple #[.agg #[.int .i64 0, .int .i64 0], .bool false]) (by simp [results, Tryd.results27, go_sem, q0, q1]) rfl ⟨by rw [F.out], ?_⟩
      exact (B4.out.setCell (by simp) _).setCell (by simp) _
    · have F := Lib.hid (HY.out hf hd)
      rw [hf] at HF
      have hz : (d == 1) = false := by simpa using hd
      clear hf HY HN hd
      go_enter Tryd.func27, Tryd.ntmps27
      go_wp2_with fail
      refine (CU.out _ HM.out).mono ?_; rintro e w1 ⟨rfl, q, rfl⟩
      have R1 := Lib.hid (R0.out.drewN q)
      have B1 := Lib.hid (below_drewN2 BB.out q)
      go_wp2_with fail
      refine (RA.out _ (HV.out.keep B1.out)).mono ?_; rintro e w2 ⟨rfl, hb2⟩
      have R2 := Lib.hid (R1.out.keep hb2)
      have B2 := Lib.hid (B1.out.trans (hb2.mono B1.out.size))
      clear hb2
      go_wp2_with fail
      refine (RB.out _ (HV.out.keep B2.out)).mono ?_; rintro e w3 ⟨rfl, hb3⟩
      have R3 := Lib.hid ((R2.out.keep hb3).alloc (.cells #[.int .i64 n, .int .i64 d] 36))
      have B3 : Hid (Below w.heap.size w (w3.alloc (.cells #[.int .i64 n, .int .i64 d] 36))) := (B2.out.trans (hb3.mono B2.out.size)).alloc (B2.out.trans (hb3.mono B2.out.size)).size _
      have X3 := Lib.hid (Bk.new w3 [.int .i64 n, .int .i64 d] 36 w3.heap.size rfl)
      clear hb3 R1 R2 B1 B2
      have x0 := X3.out.c 0 _ rfl
      have x1 := X3.out.c 1 _ rfl
      go_wp2_with fail
      refine (HF.out _).mono ?_; rintro e w4 ⟨rfl, hb4⟩
      have R4 := Lib.hid (R3.out.keep hb4)
      have X4 := Lib.hid (X3.out.keep hb4)
      have B4 := Lib.hid (B3.out.trans (hb4.mono B3.out.size))
      clear hb4 x0 x1
      have x0 := X4.out.c 0 _ rfl
      have x1 := X4.out.c 1 _ rfl
      have q0 := R4.out.c 0 _ rfl
      have q1 := R4.out.c 1 _ rfl
      have q2 := R4.out.f 0 (by show 0 < 2; omega)
      have q3 := R4.out.f 1 (by show 1 < 2; omega)
      go_wp2_with fail
      refine bodyPost_ret (v := .tuple #[.agg #[.int .i64 n, .int .i64 d], .bool true]) (by simp [results, Tryd.results27, go_sem, q0, q1]) rfl ⟨by rw [F.out], ?_⟩
      exact (B4.out.setCell (by simp) _).setCell (by simp) _
end Go.Proofs.YtnpigefbdadjfaaDoor

namespace Go.Proofs.YtnpigefbdadjfaaDoor
/-- Ways to choose, by Pascal's triangle. -/
def pas : Nat → Nat → Nat
  | _, 0 => 1
  | 0, _ + 1 => 0
  | n + 1, k + 1 => pas n k + pas n (k + 1)
theorem pas_zero (n : Nat) : pas n 0 = 1 := by cases n <;> rfl
theorem pas_succ (n k : Nat) : pas (n + 1) (k + 1) = pas n k + pas n (k + 1) := rfl
theorem pas_gt : ∀ (n k : Nat), n < k → pas n k = 0
  | 0, k + 1, _ => rfl
  | n + 1, k + 1, h => by rw [pas_succ, pas_gt n k (by omega), pas_gt n (k + 1) (by omega)]
theorem pas_self : ∀ n, pas n n = 1
  | 0 => rfl
  | n + 1 => by rw [pas_succ, pas_self n, pas_gt n (n + 1) (by omega)]
theorem pas_mul : ∀ (n k : Nat), pas n (k + 1) * (k + 1) + pas n k * k = pas n k * n
  | 0, 0 => rfl
  | 0, k + 1 => by simp [pas]
  | n + 1, 0 => by
    have h := pas_mul n 0
    rw [pas_succ, pas_zero, pas_zero] at *
    omega
  | n + 1, k + 1 => by
    have h1 := pas_mul n k
    have h2 := pas_mul n (k + 1)
    rw [pas_succ n (k + 1), pas_succ n k]
    generalize pas n k = a at *
    generalize pas n (k + 1) = b at *
    generalize pas n (k + 1 + 1) = c at *
    have e1 : (b + c) * (k + 1 + 1) = b * (k + 1) + b + c * (k + 1 + 1) := by rw [Nat.add_mul]; simp [Nat.mul_add]
    have e2 : (a + b) * (k + 1) = a * k + a + b * (k + 1) := by rw [Nat.add_mul]; simp [Nat.mul_add]
    have e3 : (a + b) * (n + 1) = a * n + b * n + a + b := by rw [Nat.add_mul]; simp [Nat.mul_add]; omega
    rw [e1, e2, e3]
    omega
/-- What the program's step gives. -/
theorem pas_step (n k : Nat) : pas n k * (n - k) = pas n (k + 1) * (k + 1) := by
  have h1 := pas_mul n k
  rw [Nat.mul_sub]
  omega
def rowL : Nat → List Nat
  | 0 => [1]
  | n + 1 => (0 :: rowL n).zipWith (· + ·) (rowL n ++ [0])
def rowsOk : Nat → List Nat → Bool
  | 0, _ => true
  | f + 1, l => l.all (fun x => decide (x ≤ 118264581564861424)) && rowsOk f ((0 :: l).zipWith (· + ·) (l ++ [0]))
theorem rowsOk_61 : rowsOk 61 [1] = true := by decide +kernel
theorem rowL_get : ∀ (n k : Nat), (rowL n).length = n + 1 ∧ (rowL n).getD k 0 = pas n k
  | 0, 0 => ⟨rfl, rfl⟩
  | 0, k + 1 => ⟨rfl, rfl⟩
  | n + 1, 0 => by
    obtain ⟨h1, h2⟩ := rowL_get n 0
    refine ⟨by simp [rowL, h1], ?_⟩
    rw [pas_zero] at *
    have : 0 < (rowL n).length := by omega
    simp only [rowL]
    cases hl : rowL n with
    | nil => rw [hl] at this; simp at this
    | cons a l => rw [hl] at h2; simp at h2 ⊢; exact h2
  | n + 1, k + 1 => by
    obtain ⟨h1, h2⟩ := rowL_get n k
    have h3 := (rowL_get n (k + 1)).2
    refine ⟨by simp [rowL, h1], ?_⟩
    rw [pas_succ, ← h2, ← h3]
    simp only [rowL, List.getD_eq_getElem?_getD, List.getElem?_zipWith]
    by_cases hk : k < n
    · rw [List.getElem?_cons_succ, List.getElem?_append_left (by omega)]
      rw [List.getElem?_eq_getElem (show k < (rowL n).length by omega), List.getElem?_eq_getElem (show k + 1 < (rowL n).length by omega)]
      simp
    · by_cases hk2 : k = n
      · subst hk2
        rw [List.getElem?_cons_succ, List.getElem?_append_right (by omega), h1]
        rw [List.getElem?_eq_getElem (show k < (rowL k).length by omega), List.getElem?_eq_none (show (rowL k).length ≤ k + 1 by omega)]
        simp
      · rw [List.getElem?_cons_succ, List.getElem?_eq_none (show (rowL n).length ≤ k by omega), List.getElem?_eq_none (show (rowL n).length ≤ k + 1 by omega)]
        simp
theorem rowsOk_get : ∀ (f m : Nat), rowsOk f (rowL m) = true → ∀ n, m ≤ n → n < m + f → ∀ k, pas n k ≤ 118264581564861424
  | 0, m, _, n, h1, h2, _ => by omega
  | f + 1, m, h, n, h1, h2, k => by
    rw [rowsOk] at h
    obtain ⟨ha, hb⟩ := Bool.and_eq_true_iff.1 h
    by_cases e : n = m
    · subst e
      rw [← (rowL_get n k).2, List.getD_eq_getElem?_getD]
      cases hg : (rowL n)[k]? with
      | none => simp
      | some x =>
        rw [List.all_eq_true] at ha
        simpa using ha x (List.mem_of_getElem? hg)
    · exact rowsOk_get f (m + 1) hb n (by omega) (by omega) k
theorem pas_le (n k : Nat) (h : n ≤ 60) : pas n k ≤ 118264581564861424 := rowsOk_get 61 0 rowsOk_61 n (Nat.zero_le _) (by omega) k
end Go.Proofs.YtnpigefbdadjfaaDoor

namespace Go.Proofs.YtnpigefbdadjfaaDoor
open Go Go.RowKit
set_option linter.unusedVariables false

/-- The first numbers of a row of Pascal's triangle. -/
def prow (m k : Nat) : List Int := (List.range k).map fun j => (pas m j : Int)
theorem prow_succ (m k : Nat) : prow m (k + 1) = prow m k ++ [(pas m k : Int)] := by simp [prow, List.range_succ]
theorem prow_length (m k : Nat) : (prow m k).length = k := by simp [prow]
theorem prow_at (m k j : Nat) (h : j < k) : (intVals (prow m k))[j]? = some (.int .i64 (pas m j)) := by simp [intVals, prow, h]
theorem own_one (w : World) (x : Value) (e : TypeId) (base : Nat) (hb : base ≤ w.heap.size) : (w.alloc (.cells #[x] e)).ownsRow base e 1 (.slice (some ⟨w.heap.size, 0, none⟩) 1 1) 1 [x] :=
  ⟨rfl, .inr ⟨w.heap.size, 1, #[x], rfl, hb, heap_alloc_new w _, Nat.le_refl _, by decide, rfl, rfl⟩⟩
theorem c1_b (wr : World) (x : Value) (t : TypeId) : ∀ (j : Nat) (u : Value), [x][j]? = some u → (wr.alloc (.cells #[x] t)).cell? ((⟨wr.heap.size, 0, none⟩ : Addr).add j) = some u := by
  intro j u hj
  match j, hj with
  | 0, hj =>
    simp at hj; subst hj
    rw [show ((⟨wr.heap.size, 0, none⟩ : Addr).add 0) = ⟨wr.heap.size, 0, none⟩ from by simp [Addr.add]]
    rw [World.cell?_alloc_at _ _ _ _ rfl]; rfl
theorem below_rowb {B base n : Nat} {w wr w1 : World} {e : TypeId} {v : Value} {xs : List Value} {o : Obj} (hb : Below B w wr) (hB : base ≤ wr.heap.size) (hB2 : B ≤ base) (hown : wr.ownsRow base e 1 v n xs) (hg : (wr.alloc o).grownBy w1 v.ownBlock) : Below B w w1 :=
  (hb.alloc (by omega) o).grown hg (by simp; omega) (fun k hk => by have := (hown.lt k hk).1; omega)

theorem own_base {w : World} {base base' : Nat} {e : TypeId} {size n : Nat} {v : Value} {xs : List Value} (h : w.ownsRow base e size v n xs) (hle : base' ≤ base) : w.ownsRow base' e size v n xs := by
  refine ⟨h.1, ?_⟩
  rcases h.2 with h' | ⟨g, cap, cur, h1, h2, h3⟩
  · exact .inl h'
  · exact .inr ⟨g, cap, cur, h1, by omega, h3⟩

/-- What BinomialOf answers. -/
def binOk (n k : Int) : Bool := decide ((0 ≤ n ∧ n ≤ 60) ∧ 0 ≤ k ∧ k ≤ n)
def binV (n k : Int) : Int := if binOk n k = true then pas n.toNat k.toNat else 0

theorem pas_div (n i : Nat) (h : i ≤ n) : ((pas n i : Nat) : Int) * ((n : Int) - (i : Int)) / ((i : Int) + 1) = ((pas n (i + 1) : Nat) : Int) := by
  have hs := pas_step n i
  have e : ((pas n i : Nat) : Int) * ((n : Int) - (i : Int)) = ((pas n (i + 1) : Nat) : Int) * ((i : Int) + 1) := by
    rw [show (n : Int) - (i : Int) = ((n - i : Nat) : Int) from by omega, ← Int.natCast_mul, hs, Int.natCast_mul]
    rfl
  rw [e, Int.mul_ediv_cancel _ (by omega)]

theorem bin_step (n x : Nat) (hn : n ≤ 60) (hx : x ≤ n) : wrap64 ((wrap64 (((pas n x : Nat) : Int) * ((n : Int) - (x : Int)))).tdiv ((x : Int) + 1)) = ((pas n (x + 1) : Nat) : Int) := by
  have hd := pas_div n x hx
  have hle := pas_le n x hn
  have hle2 := pas_le n (x + 1) hn
  have hm0 : (0 : Int) ≤ ((pas n x : Nat) : Int) * ((n : Int) - (x : Int)) := Int.mul_nonneg (by omega) (by omega)
  have hm1 : ((pas n x : Nat) : Int) * ((n : Int) - (x : Int)) ≤ 118264581564861424 * 60 := Int.mul_le_mul (by omega) (by omega) (by omega) (by omega)
  generalize ((pas n x : Nat) : Int) * ((n : Int) - (x : Int)) = M at *
  have e1 : wrap64 M = M := by unfold wrap64; omega
  rw [e1, Int.tdiv_eq_ediv_of_nonneg hm0, hd]
  unfold wrap64
  omega

set_option maxRecDepth 100000 in
theorem bin_yes_impl (n k : Nat) (w : World) (n2 : n ≤ 60) (k2 : k ≤ n) :
    Calls Tryd.prog 32 #[.int .i64 n, .int .i64 k] w fun e w' => e = .returned (.tuple #[.int .i64 (pas n k), .bool true]) ∧ w = w' := by
  go_enter Tryd.func32, Tryd.ntmps32
  go_wp2_with fail
  refine (btw_yes _ _ _ _ (by omega) (by omega)).mono ?_; rintro e w' ⟨rfl, rfl⟩
  go_wp2_with fail
  refine (btw_yes _ _ _ _ (by omega) (by omega)).mono ?_; rintro e w' ⟨rfl, rfl⟩
  go_wp2_with fail
  go_loop [6, 18] (fun v i => ∃ x : Nat, x ≤ k ∧ i = .int .i64 x ∧ v = .int .i64 (pas n x)) (fun _ i => k - (intOf i).toNat)
  case atStart => exact ⟨0, Nat.zero_le _, rfl, by rw [pas_zero]; rfl⟩
  case round =>
    obtain ⟨x, hx, rfl, rfl⟩ := hrel
    by_cases hlt : x < k
    · have HD := Lib.hid (bin_step n x n2 (by omega))
      go_wp2_with fail
      exact ⟨⟨x + 1, by omega, by go_num, by rw [HD.out]⟩, by simp [intOf]; omega⟩
    · obtain rfl : x = k := by omega
      go_wp2_with fail
      go_ret2
      exact ⟨rfl, rfl⟩

theorem bin_impl (n k : Int) (w : World) :
    Calls Tryd.prog 32 #[.int .i64 n, .int .i64 k] w fun e w' => e = .returned (.tuple #[.int .i64 (binV n k), .bool (binOk n k)]) ∧ Below w.heap.size w w' := by
  by_cases h1 : 0 ≤ n ∧ n ≤ 60
  · by_cases h2 : 0 ≤ k ∧ k ≤ n
    · have hb : binOk n k = true := decide_eq_true ⟨h1, h2⟩
      have HV : Hid (binV n k = pas n.toNat k.toNat) := by show _ = _; unfold binV; rw [if_pos hb]
      obtain ⟨n1, n2⟩ := h1
      obtain ⟨k1, k2⟩ := h2
      rw [hb, HV.out]
      obtain ⟨n, rfl⟩ := Int.eq_ofNat_of_zero_le n1
      obtain ⟨k, rfl⟩ := Int.eq_ofNat_of_zero_le k1
      exact (bin_yes_impl n k w (by omega) (by omega)).mono fun e w' ⟨a, b⟩ => ⟨a, by rw [b]; exact Below.refl _ _⟩
    · have hb : binOk n k = false := decide_eq_false (fun e => h2 e.2)
      have HV : Hid (binV n k = 0) := by show _ = _; unfold binV; rw [if_neg (by rw [hb]; decide)]
      rw [hb, HV.out]
      obtain ⟨n1, n2⟩ := h1
      have H2 := Lib.hid h2
      clear h2 hb
      go_enter Tryd.func32, Tryd.ntmps32
      go_wp2_with fail
      refine (btw_yes _ _ _ _ n1 n2).mono ?_; rintro e w' ⟨rfl, rfl⟩
      go_wp2_with fail
      refine (btw_no _ _ _ _ H2.out).mono ?_; rintro e w' ⟨rfl, rfl⟩
      go_wp2_with fail
      go_ret2
      exact ⟨rfl, Below.refl _ _⟩
  · have hb : binOk n k = false := decide_eq_false (fun e => h1 e.1)
    have HV : Hid (binV n k = 0) := by show _ = _; unfold binV; rw [if_neg (by rw [hb]; decide)]
    rw [hb, HV.out]
    have H1 := Lib.hid h1
    clear h1 hb
    go_enter Tryd.func32, Tryd.ntmps32
    go_wp2_with fail
    refine (btw_no _ _ _ _ H1.out).mono ?_; rintro e w' ⟨rfl, rfl⟩
    go_wp2_with fail
    go_ret2
    exact ⟨rfl, Below.refl _ _⟩
end Go.Proofs.YtnpigefbdadjfaaDoor

